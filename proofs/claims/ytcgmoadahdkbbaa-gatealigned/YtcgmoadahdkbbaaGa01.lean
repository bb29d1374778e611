/-
  Plain facts on worlds: what a row of bytes that the call itself made holds, and what stays as it was while such rows grow. Of no program.
  Credit, plainly: a store (its capacity, what is owed, its texts), and what each call answers and leaves.
  Gates, plainly: items, channels, and what each call answers and leaves.
  Plain facts on worlds: what stays but for some blocks, a block of cells, append to a row of the call's own and where the new row lies. Of no program.
  append to a row of the call's own, of cells that lie anywhere: what it gives, and where the new row lies. Of no program.
-/
import Derived.WalkKit
import Derived.WalkSpells
import Derived.Lib.AppendStr
import Derived.WalkLawsBesides
import Derived.Deep.AppendLies
import Derived.Laws.AppendOwnNone
namespace Go.Proofs.Ytcgmoadahdkbbaa
open Go.RowKit

theorem hide {p : Prop} (h : p) : Hid p := h
theorem unhide {p : Prop} (h : Hid p) : p := h
theorem ret_int {k : IntKind} {a b : Int} (h : a = b) : Ending.returned (.int k a) = .returned (.int k b) := by rw [h]

theorem ret_bool {a b : Bool} (h : a = b) : Ending.returned (.bool a) = .returned (.bool b) := by rw [h]

/-- What stays: all blocks below B, and all that are no rows of the element type e. -/
structure Fr (B e : Nat) (w w' : World) : Prop where
  below : Below B w w'
  other : ∀ k, k < w.heap.size → (∀ cur f, w.heap[k]? ≠ some (.cells cur e f)) → w'.heap[k]? = w.heap[k]?
theorem Fr.refl (B e : Nat) (w : World) : Fr B e w w := ⟨Below.refl _ _, fun _ _ _ => rfl⟩
theorem Fr.trans {B e : Nat} {a b c : World} (h : Fr B e a b) (k : Fr B e b c) : Fr B e a c :=
  ⟨h.below.trans k.below, fun j hj hn => by
    have e1 := h.other j hj hn
    rw [k.other j (by have := h.below.size; omega) (fun cur f => by rw [e1]; exact hn cur f), e1]⟩
theorem Fr.mono {B B' e : Nat} {a b : World} (h : Fr B e a b) (hB : B' ≤ B) : Fr B' e a b := ⟨h.below.mono hB, h.other⟩
theorem Fr.drew {B e : Nat} {a w : World} (h : Fr B e a w) : Fr B e a w.drew := ⟨h.below.drew, h.other⟩
theorem Fr.alloc {B e : Nat} {a w : World} (h : Fr B e a w) (hB : B ≤ w.heap.size) (o : Obj) : Fr B e a (w.alloc o) :=
  ⟨h.below.alloc hB o, fun k hk hn => by rw [Below.heap_alloc _ _ _ (by have := h.below.size; omega)]; exact h.other k hk hn⟩
theorem Fr.grown {B e size n : Nat} {a w w' : World} {v : Value} {xs : List Value} (h : Fr B e a w) (ho : w.ownsRow B e size v n xs) (hg : w.grownBy w' v.ownBlock) (hB : B ≤ w.heap.size) : Fr B e a w' :=
  ⟨h.below.grown hg hB (fun k hk => (ho.lt k hk).1), fun k hk hn => by
    have e1 := h.other k hk hn
    rw [← e1]
    refine hg.block k (by have := h.below.size; omega) fun hv => ?_
    obtain ⟨_, ⟨rfl, _⟩ | ⟨g, cap, cur, rfl, _, hh, _⟩⟩ := ho
    · simp [Value.ownBlock] at hv
    · simp [Value.ownBlock] at hv
      subst hv
      exact hn cur (0, 0) (by rw [← e1]; exact hh)⟩
theorem Fr.size {B e : Nat} {a w : World} (h : Fr B e a w) : a.heap.size ≤ w.heap.size := h.below.size
/-- A block that is no row of that type is there still. -/
theorem Fr.keep {B e k : Nat} {a w : World} (h : Fr B e a w) {cur : Array Value} {t : TypeId} {f : Nat × Nat} (hb : a.heap[k]? = some (.cells cur t f)) (ht : t ≠ e) : w.heap[k]? = some (.cells cur t f) := by
  have hk : k < a.heap.size := by
    rcases Nat.lt_or_ge k a.heap.size with h1 | h1
    · exact h1
    · rw [Array.getElem?_eq_none h1] at hb; cases hb
  rw [h.other k hk (fun c g hc => by rw [hb] at hc; simp at hc; exact ht hc.2.1)]; exact hb

/-- append to a row of the call's own, as one step of a statement whose order is drawn. -/
theorem step_append_own {P : Program} {ops : Array Oper} {o : Oper} {a : Act} {w : World} {K : Act → World → Prop} {Q : Exit → Act → World → Prop} {E : Prop}
    (hg : o.guard = none) (s x : Operand) (t : TypeId) (hop : o.op = Op.call { callee := Callee.builtin Builtin.append, args := #[s, x], argTypes := #[t, t] })
    (base : Nat) (e : TypeId) (i : TypeInfo) (z : Value) (size bytes : Nat) (h1 : P.underlying t = some (.slice e)) (h2 : P.info? e = some i) (h3 : i.zero = some z) (h4 : i.size = size) (h5 : i.bytes = bytes) (h6 : z.cells.size = size) (h7 : 0 < size)
    (v : Value) (n : Nat) (xs : List Value) (hs : a.eval s = v) (hown : w.ownsRow base e size v n xs)
    (ad : Addr) (m c : Nat) (news : List Value) (hx : a.eval x = .slice (some ad) m c) (hn : news.length = m * size) (hc : ∀ j u, news[j]? = some u → w.cell? (ad.add j) = some u) (h1c : ∀ u ∈ news, u.oneCell' = true)
    (b1 : n + m ≤ maxLen) (b2 : (n + m) * bytes ≤ 140737488355328) (hb : base ≤ w.heap.size)
    (hK : ∀ v' w', w'.ownsRow base e size v' (n + m) (xs ++ news) → w.grownBy w' v.ownBlock → K (a.put o.dst v') w') :
    if Region.wanted o (yielded ops a.tmps) = true then Oper.wp P o a w K Q else E := by
  have hw : Region.wanted o (yielded ops a.tmps) = true := by simp [Region.wanted, hg]
  rw [if_pos hw]
  obtain ⟨v', w', hrun, r1, r2, _⟩ := run_append_own (P := P) w base t o.type e i z size bytes h1 h2 h3 h4 h5 h6 h7 v n xs hown ad m c news hn hc h1c b1 b2 hb
  unfold Oper.wp
  simp [execOp, hop, resolve, invoke, builtin, hs, hx, hrun, Result.andThen]
  exact hK v' w' r1 r2

/-- Bytes as cells. -/
def byteC (l : List UInt8) : List Value := l.map fun b => .int .u8 (b.toNat : Int)
theorem byteC_append (a b : List UInt8) : byteC (a ++ b) = byteC a ++ byteC b := by unfold byteC; exact List.map_append
theorem byteC_length (a : List UInt8) : (byteC a).length = a.length := by unfold byteC; exact List.length_map ..
theorem byteC_str (s : ByteArray) : Lib.strCells s = byteC s.data.toList := by
  unfold Lib.strCells byteC; rfl
theorem byteC_one (n : Nat) (h : n < 256) : [Value.int .u8 (n : Int)] = byteC [UInt8.ofNat n] := by
  unfold byteC; simp [Nat.mod_eq_of_lt h]
end Go.Proofs.Ytcgmoadahdkbbaa
namespace Go.Proofs.Ytcgmoadahdkbbaa.Cr

/-- A store, plainly. -/
structure Sto where
  cap : Nat
  owed : Nat
  q : List ByteArray
structure Sto.Ok (s : Sto) : Prop where
  lo : 0 < s.cap
  hi : s.cap ≤ 256
  room : s.q.length + s.owed ≤ s.cap
/-- How many credits are given. -/
def gvN (s : Sto) (most : Int) : Nat := min most.toNat (s.cap - s.q.length - s.owed)
def gvE (most : Int) : Int := if most < 0 then 1 else 0
def gvS (s : Sto) (most : Int) : Sto := ⟨s.cap, s.owed + gvN s most, s.q⟩
def ptE (s : Sto) : Int := if s.owed = 0 then 200 else 0
def ptS (s : Sto) (t : ByteArray) : Sto := if s.owed = 0 then s else ⟨s.cap, s.owed - 1, s.q ++ [t]⟩
def tkE (s : Sto) : Int := if s.q.length = 0 then 5 else 0
def tkT (s : Sto) : ByteArray := s.q.headD ⟨#[]⟩
def tkS (s : Sto) : Sto := ⟨s.cap, s.owed, s.q.tail⟩
theorem gvN_le (s : Sto) (h : s.Ok) (most : Int) : s.q.length + (s.owed + gvN s most) ≤ s.cap := by
  have := h.room
  unfold gvN
  omega
theorem gvN_neg (s : Sto) {most : Int} (h : most < 0) : gvN s most = 0 := by
  unfold gvN
  omega
theorem gvS_neg (s : Sto) {most : Int} (h : most < 0) : gvS s most = s := by
  unfold gvS
  rw [gvN_neg s h]
  rfl
theorem Sto.Ok.gv {s : Sto} (h : s.Ok) (most : Int) : (gvS s most).Ok := ⟨h.lo, h.hi, gvN_le s h most⟩
theorem Sto.Ok.pt {s : Sto} (h : s.Ok) (t : ByteArray) : (ptS s t).Ok := by
  unfold ptS
  split
  · exact h
  · refine ⟨h.lo, h.hi, ?_⟩
    have := h.room
    simp only [List.length_append, List.length_singleton]
    omega
theorem Sto.Ok.tk {s : Sto} (h : s.Ok) : (tkS s).Ok := by
  refine ⟨h.lo, h.hi, ?_⟩
  have := h.room
  simp only [tkS, List.length_tail]
  omega
/-- A number's rest, as Go reckons it. -/
theorem tmod_nat (a b : Nat) : (a : Int).tmod (b : Int) = ((a % b : Nat) : Int) := rfl
theorem mod_ne {f i j c : Nat} (hf : f < c) (hi : i < c) (hj : j < c) (h : (f + i) % c = (f + j) % c) : i = j := by
  have e1 : (f + i) % c = if f + i < c then f + i else f + i - c := by
    split
    · exact Nat.mod_eq_of_lt (by omega)
    · rw [Nat.mod_eq_sub_mod (by omega), Nat.mod_eq_of_lt (by omega)]
  have e2 : (f + j) % c = if f + j < c then f + j else f + j - c := by
    split
    · exact Nat.mod_eq_of_lt (by omega)
    · rw [Nat.mod_eq_sub_mod (by omega), Nat.mod_eq_of_lt (by omega)]
  rw [e1, e2] at h
  split at h <;> split at h <;> omega
end Go.Proofs.Ytcgmoadahdkbbaa.Cr
namespace Go.Proofs.Ytcgmoadahdkbbaa.Gt
open Cr

/-- An item: a text, or (n above 0) a barrier. -/
structure It where
  t : ByteArray
  n : Nat
structure Ch where
  cap : Nat
  owed : Nat
  q : List It
  next : Nat
/-- A channel's store: an empty text for each item. -/
def Ch.sto (c : Ch) : Sto := ⟨c.cap, c.owed, List.replicate c.q.length ⟨#[]⟩⟩
structure Gt where
  n : Nat
  ch : Nat → Ch
  turn : Nat
def Gt.upd (g : Gt) (k : Nat) (c : Ch) : Gt := ⟨g.n, fun j => if j = k then c else g.ch j, g.turn⟩
def Gt.tn (g : Gt) (t : Nat) : Gt := ⟨g.n, g.ch, t⟩
def Ch.gv (c : Ch) (most : Int) : Ch := ⟨c.cap, c.owed + gvN c.sto most, c.q, c.next⟩
def Ch.psE (c : Ch) : Int := if c.owed = 0 then 200 else 0
def Ch.ps (c : Ch) (x : It) : Ch := if c.owed = 0 then c else ⟨c.cap, c.owed - 1, c.q ++ [x], c.next⟩
def Ch.hd (c : Ch) : It := c.q.headD ⟨⟨#[]⟩, 0⟩
def Ch.tl (c : Ch) : Ch := ⟨c.cap, c.owed, c.q.tail, c.next⟩
def Ch.blk (c : Ch) : Bool := match c.q with
  | x :: _ => decide (0 < x.n)
  | [] => false
def Ch.opn (c : Ch) : Bool := match c.q with
  | x :: _ => decide (x.n = 0)
  | [] => false
def Ch.pbE (c : Ch) (n : Int) : Int := if n = (c.next : Int) then c.psE else 1
def Ch.pb (c : Ch) (n : Int) : Ch := if n = (c.next : Int) then (if c.owed = 0 then c else ⟨c.cap, c.owed - 1, c.q ++ [⟨⟨#[]⟩, c.next⟩], c.next + 1⟩) else c
/-- Is there such a channel? -/
def Gt.has (g : Gt) (c : Int) : Prop := 0 ≤ c ∧ c < (g.n : Int)
def Gt.all (g : Gt) : Bool := (List.range g.n).all fun k => (g.ch k).blk
/-- All channels' first items are taken out. -/
def Gt.tls (g : Gt) (m : Nat) : Gt := ⟨g.n, fun j => if j < m then (g.ch j).tl else g.ch j, g.turn⟩
/-- The first open channel, from one on and around. -/
def Gt.fst (g : Gt) : Option Nat := ((List.range g.n).find? fun k => (g.ch ((g.turn + k) % g.n)).opn).map fun k => (g.turn + k) % g.n
structure Gt.Ok (g : Gt) : Prop where
  n0 : 0 < g.n
  n1 : g.n ≤ 64
  tn : g.turn < g.n
  ch : ∀ k, k < g.n → (g.ch k).sto.Ok
theorem Ch.lq {c : Ch} (h : c.sto.Ok) : c.q.length + c.owed ≤ c.cap ∧ c.cap ≤ 256 ∧ 0 < c.cap := by
  have := h.room
  have h1 := h.hi
  have h2 := h.lo
  simp only [Ch.sto, List.length_replicate] at *
  exact ⟨this, h1, h2⟩
theorem Ch.gv_sto (c : Ch) (most : Int) : (c.gv most).sto = gvS c.sto most := rfl
theorem Ch.tl_sto (c : Ch) : c.tl.sto = tkS c.sto := by
  unfold Ch.tl Ch.sto tkS
  congr 1
  simp
theorem Ch.ps_sto (c : Ch) (x : It) : (c.ps x).sto = ptS c.sto ⟨#[]⟩ := by
  unfold Ch.ps ptS
  by_cases h : c.owed = 0
  · rw [if_pos h, if_pos (show c.sto.owed = 0 from h)]
  · rw [if_neg h, if_neg (show ¬ c.sto.owed = 0 from h)]
    unfold Ch.sto
    congr 1
    rw [List.length_append, List.length_singleton, List.replicate_succ']
theorem Ch.psE_sto (c : Ch) : ptE c.sto = c.psE := rfl
theorem Gt.upd_same (g : Gt) (k : Nat) (c : Ch) : (g.upd k c).ch k = c := if_pos rfl
theorem Gt.upd_ne (g : Gt) {j k : Nat} (c : Ch) (h : j ≠ k) : (g.upd k c).ch j = g.ch j := if_neg h
theorem Gt.upd_self (g : Gt) (k : Nat) : g.upd k (g.ch k) = g := by
  unfold Gt.upd
  cases g with
  | mk n ch t =>
    congr 1
    funext j
    dsimp only
    split
    · rename_i h; rw [h]
    · rfl
theorem Gt.upd_upd (g : Gt) (k : Nat) (c d : Ch) : (g.upd k c).upd k d = g.upd k d := by
  unfold Gt.upd
  congr 1
  funext j
  dsimp only
  split <;> rfl
theorem Gt.Ok.upd {g : Gt} (h : g.Ok) (k : Nat) {c : Ch} (hc : c.sto.Ok) : (g.upd k c).Ok :=
  ⟨h.n0, h.n1, h.tn, fun j hj => by
    by_cases e : j = k
    · subst e; rw [Gt.upd_same]; exact hc
    · rw [Gt.upd_ne g c e]; exact h.ch j hj⟩
theorem Gt.Ok.tn' {g : Gt} (h : g.Ok) {t : Nat} (ht : t < g.n) : (g.tn t).Ok := ⟨h.n0, h.n1, ht, h.ch⟩
theorem Gt.tls_zero (g : Gt) : g.tls 0 = g := by
  unfold Gt.tls
  cases g with
  | mk n ch t => rfl
theorem Gt.tls_succ (g : Gt) (m : Nat) : g.tls (m + 1) = (g.tls m).upd m ((g.tls m).ch m).tl := by
  have e : (g.tls m).ch m = g.ch m := if_neg (Nat.lt_irrefl m)
  rw [e]
  unfold Gt.tls Gt.upd
  congr 1
  funext j
  dsimp only
  by_cases h : j = m
  · subst h
    rw [if_pos rfl, if_pos (Nat.lt_succ_self j)]
  · rw [if_neg h]
    by_cases h2 : j < m
    · rw [if_pos h2, if_pos (by omega)]
    · rw [if_neg h2, if_neg (by omega)]
theorem Gt.tls_ch (g : Gt) (m : Nat) : (g.tls m).ch m = g.ch m := if_neg (Nat.lt_irrefl m)
theorem Ch.blk_q {c : Ch} (h : c.blk = true) : 0 < c.q.length ∧ 0 < c.hd.n := by
  unfold Ch.blk at h
  unfold Ch.hd
  cases hq : c.q with
  | nil => rw [hq] at h; cases h
  | cons x r =>
    rw [hq] at h
    exact ⟨Nat.succ_pos _, of_decide_eq_true h⟩
theorem Ch.opn_q {c : Ch} (h : c.opn = true) : 0 < c.q.length ∧ c.hd.n = 0 := by
  unfold Ch.opn at h
  unfold Ch.hd
  cases hq : c.q with
  | nil => rw [hq] at h; cases h
  | cons x r =>
    rw [hq] at h
    exact ⟨Nat.succ_pos _, of_decide_eq_true h⟩
theorem Ch.blk_eq (c : Ch) : c.blk = (decide (0 < c.q.length) && decide (0 < c.hd.n)) := by
  unfold Ch.blk Ch.hd
  cases c.q with
  | nil => rfl
  | cons x r => simp
theorem Ch.opn_eq (c : Ch) : c.opn = (decide (0 < c.q.length) && decide (c.hd.n = 0)) := by
  unfold Ch.opn Ch.hd
  cases c.q with
  | nil => rfl
  | cons x r => simp
theorem Ch.opn_blk (c : Ch) : c.opn = (decide (0 < c.q.length) && !c.blk) := by
  unfold Ch.blk Ch.opn
  cases c.q with
  | nil => rfl
  | cons x r =>
    dsimp only
    by_cases h : x.n = 0
    · simp [h]
    · have : 0 < x.n := by omega
      simp [h, this]
theorem it_head : ∀ (l : List It) (h : 0 < l.length), l[0] = l.headD ⟨⟨#[]⟩, 0⟩
  | [], h => by cases h
  | _ :: _, _ => rfl
theorem Ch.hd_get {c : Ch} (h : 0 < c.q.length) : c.q[0] = c.hd := it_head c.q h
/-- What a call of a channel answers, and leaves. -/
def Gt.gvE (g : Gt) (c most : Int) : Int := if 0 ≤ c ∧ c < (g.n : Int) then Cr.gvE most else 210
def Gt.gvN (g : Gt) (c most : Int) : Nat := if 0 ≤ c ∧ c < (g.n : Int) then Cr.gvN (g.ch c.toNat).sto most else 0
def Gt.gvS (g : Gt) (c most : Int) : Gt := if 0 ≤ c ∧ c < (g.n : Int) then g.upd c.toNat ((g.ch c.toNat).gv most) else g
def Gt.txE (g : Gt) (c : Int) (t : ByteArray) : Int := if 0 ≤ c ∧ c < (g.n : Int) then (if 60000 < t.size then 2 else (g.ch c.toNat).psE) else 210
def Gt.txS (g : Gt) (c : Int) (t : ByteArray) : Gt := if 0 ≤ c ∧ c < (g.n : Int) then (if 60000 < t.size then g else g.upd c.toNat ((g.ch c.toNat).ps ⟨t, 0⟩)) else g
def Gt.baE (g : Gt) (c n : Int) : Int := if 0 ≤ c ∧ c < (g.n : Int) then (g.ch c.toNat).pbE n else 210
def Gt.baS (g : Gt) (c n : Int) : Gt := if 0 ≤ c ∧ c < (g.n : Int) then g.upd c.toNat ((g.ch c.toNat).pb n) else g
def Gt.leE (g : Gt) (c : Int) : Int := if 0 ≤ c ∧ c < (g.n : Int) then 0 else 210
def Gt.leN (g : Gt) (c : Int) : Nat := if 0 ≤ c ∧ c < (g.n : Int) then (g.ch c.toNat).q.length else 0
/-- The number of the barriers that are taken out. -/
def Gt.bar (g : Gt) (k : Nat) : Nat := if k = 0 then 0 else (g.ch (k - 1)).hd.n
/-- What the first open channel is told as. -/
def Gt.fsI (g : Gt) : Int := match g.fst with
  | some k => (k : Int)
  | none => 0
/-- What is told when an item is pulled, and what it leaves. -/
def Gt.plC (g : Gt) : Int := if g.all then -1 else g.fsI
def Gt.plT (g : Gt) : ByteArray := if g.all then ⟨#[]⟩ else match g.fst with
  | some k => (g.ch k).hd.t
  | none => ⟨#[]⟩
def Gt.plB (g : Gt) : Nat := if g.all then g.bar g.n else 0
def Gt.plE (g : Gt) : Int := if g.all then 0 else if g.fst.isSome then 0 else 5
def Gt.plS (g : Gt) : Gt := if g.all then g.tls g.n else match g.fst with
  | some k => (g.tn ((k + 1) % g.n)).upd k (g.ch k).tl
  | none => g
/-- A gate that was just begun. -/
def gt0 (n cap first : Nat) : Gt := ⟨n, fun _ => ⟨cap, 0, [], first⟩, 0⟩
end Go.Proofs.Ytcgmoadahdkbbaa.Gt
namespace Go.Proofs.Ytcgmoadahdkbbaa
open Go.RowKit

/-- What stays: all blocks but some. -/
structure Kp (F : List Nat) (w w' : World) : Prop where
  os : w'.os = w.os
  tape : w'.tape = w.tape
  output : w'.output = w.output
  size : w.heap.size ≤ w'.heap.size
  block : ∀ k, k < w.heap.size → k ∉ F → w'.heap[k]? = w.heap[k]?
theorem Kp.refl (F : List Nat) (w : World) : Kp F w w := ⟨rfl, rfl, rfl, Nat.le_refl _, fun _ _ _ => rfl⟩
theorem Kp.trans {F G : List Nat} {a b c : World} (h : Kp F a b) (k : Kp G b c) (hG : ∀ x ∈ G, x ∈ F ∨ a.heap.size ≤ x) : Kp F a c :=
  ⟨k.os.trans h.os, k.tape.trans h.tape, k.output.trans h.output, Nat.le_trans h.size k.size, fun i hi hn =>
    (k.block i (Nat.lt_of_lt_of_le hi h.size) (fun hm => (hG i hm).elim hn (fun h1 => by omega))).trans (h.block i hi hn)⟩
theorem Kp.mono {F G : List Nat} {a b : World} (h : Kp F a b) (hG : ∀ x ∈ F, x ∈ G) : Kp G a b := ⟨h.os, h.tape, h.output, h.size, fun i hi hn => h.block i hi (fun hm => hn (hG i hm))⟩
theorem Kp.of {w w' : World} {row : Option Nat} (h : w.grownBy w' row) : Kp row.toList w w' := ⟨h.os, h.tape, h.output, h.size, fun i hi hn => h.block i hi (fun e => hn (by rw [← e]; simp))⟩
theorem Kp.alloc (w : World) (o : Obj) : Kp [] w (w.alloc o) := Kp.of (World.grownBy_alloc w o none)
theorem Kp.drew (w : World) : Kp [] w w.drew := ⟨rfl, rfl, rfl, Nat.le_refl _, fun _ _ _ => rfl⟩
theorem Kp.below {F : List Nat} {B : Nat} {w w' : World} (h : Kp F w w') (hB : B ≤ w.heap.size) (hF : ∀ k ∈ F, B ≤ k) : Below B w w' :=
  ⟨h.os, h.tape, h.output, h.size, fun k hk => h.block k (by omega) (fun hm => by have := hF k hm; omega)⟩
theorem Kp.ofBelow {w w' : World} (h : Below w.heap.size w w') : Kp [] w w' := ⟨h.os, h.tape, h.output, h.size, fun k hk _ => h.block k hk⟩
theorem Kp.cell {F : List Nat} {w w' : World} (h : Kp F w w') {p : Addr} {v : Value} (hc : w.cell? p = some v) (hp : p.block ∉ F) : w'.cell? p = some v :=
  (World.cell?_of_block (h.block p.block (World.block_lt_of_cell? w p hc) hp)).trans hc
/-- The box of a change lies there. -/
def CBox (g : Nat) (cs : Array Value) (t : TypeId) (w : World) : Prop := w.heap[g]? = some (.cells cs t (0, 0))
theorem CBox.cell {g : Nat} {cs : Array Value} {t : TypeId} {w : World} (h : CBox g cs t w) {i : Nat} {v : Value} (hv : cs[i]? = some v) : w.cell? ⟨g, i, none⟩ = some v := by
  unfold CBox at h
  simp [World.cell?, h, hv]
theorem CBox.kp {g : Nat} {cs : Array Value} {t : TypeId} {w w' : World} {F : List Nat} (h : CBox g cs t w) (hk : Kp F w w') (hF : g ∉ F) : CBox g cs t w' := (hk.block g (Array.getElem?_eq_some_iff.1 h).1 hF).trans h
theorem CBox.new (w : World) (cs : Array Value) (t : TypeId) : CBox w.heap.size cs t (w.alloc (.cells cs t)) := heap_alloc_new w _
theorem CBox.set {g : Nat} {cs : Array Value} {t : TypeId} {w : World} (h : CBox g cs t w) (i : Nat) (v : Value) : CBox g (cs.setIfInBounds i v) t (w.setCell ⟨g, i, none⟩ v) := by
  unfold CBox at *
  unfold World.setCell
  simp [h, Array.getElem?_modify]
theorem CBox.froz {g : Nat} {cs : Array Value} {t : TypeId} {w : World} (h : CBox g cs t w) (i : Nat) : w.frozen? ⟨g, i, none⟩ = false := by
  unfold CBox at h
  simp [World.frozen?, h]
theorem Kp.set (w : World) (p i : Nat) (v : Value) : Kp [p] w (w.setCell ⟨p, i, none⟩ v) :=
  ⟨rfl, rfl, rfl, by simp [World.setCell], fun k _ hn => Below.heap_setCell _ _ _ _ (by simpa using hn)⟩
theorem Kp.drewQ (w : World) (n : Nat) : Kp [] w (w.drewN n) := ⟨rfl, rfl, rfl, Nat.le_refl _, fun _ _ _ => rfl⟩
/-- append to a row of the call's own, as one step of a statement whose order is drawn; where the new row lies. -/
theorem step_append_lies {P : Program} {ops : Array Oper} {o : Oper} {a : Act} {w : World} {K : Act → World → Prop} {Q : Exit → Act → World → Prop} {E : Prop}
    (hg : o.guard = none) (s x : Operand) (t : TypeId) (hop : o.op = Op.call { callee := Callee.builtin Builtin.append, args := #[s, x], argTypes := #[t, t] })
    (base : Nat) (e : TypeId) (i : TypeInfo) (z : Value) (size bytes : Nat) (h1 : P.underlying t = some (.slice e)) (h2 : P.info? e = some i) (h3 : i.zero = some z) (h4 : i.size = size) (h5 : i.bytes = bytes) (h6 : z.cells.size = size) (h7 : 0 < size)
    (v : Value) (n : Nat) (xs : List Value) (hs : a.eval s = v) (hown : w.ownsRow base e size v n xs)
    (ad : Addr) (m c : Nat) (news : List Value) (hx : a.eval x = .slice (some ad) m c) (hn : news.length = m * size) (hc : ∀ j u, news[j]? = some u → w.cell? (ad.add j) = some u) (h1c : ∀ u ∈ news, u.oneCell' = true) (hm : 0 < m)
    (b1 : n + m ≤ maxLen) (b2 : (n + m) * bytes ≤ 140737488355328) (hb : base ≤ w.heap.size)
    (hK : ∀ g cap w', w'.ownsRow base e size (.slice (some ⟨g, 0, none⟩) (n + m) cap) (n + m) (xs ++ news) → w.grownBy w' v.ownBlock → (v.ownBlock = some g ∨ g = w.heap.size) → K (a.put o.dst (.slice (some ⟨g, 0, none⟩) (n + m) cap)) w') :
    if Region.wanted o (yielded ops a.tmps) = true then Oper.wp P o a w K Q else E := by
  have hw : Region.wanted o (yielded ops a.tmps) = true := by simp [Region.wanted, hg]
  rw [if_pos hw]
  obtain ⟨g, cap, w', hrun, r1, r2, r3, _⟩ := run_append_lies (P := P) (w := w) t o.type base e i z size bytes h1 h2 h3 h4 h5 h6 h7 v n xs hown ad m c news hn hc h1c hm b1 b2 hb _ rfl
  unfold Oper.wp
  simp [execOp, hop, resolve, invoke, builtin, hs, hx, hrun, Result.andThen]
  exact hK g cap w' r1 r2 r3
theorem one_new (w : World) (x : Value) (t : TypeId) : ∀ (j : Nat) (u : Value), [x][j]? = some u → (w.alloc (.cells #[x] t)).cell? ((⟨w.heap.size, 0, none⟩ : Addr).add j) = some u := fun j u hj => by
  match j, hj with
  | 0, hj =>
    simp at hj
    subst hj
    exact (CBox.new w #[x] t).cell rfl
end Go.Proofs.Ytcgmoadahdkbbaa
namespace Go.Proofs.Ytcgmoadahdkbbaa
open Go.RowKit

theorem run_app_any {P : Program} {w : World} (t ty e : TypeId) (i : TypeInfo) (z : Value) (size bytes : Nat) (h1 : P.underlying t = some (.slice e)) (h2 : P.info? e = some i) (h3 : i.zero = some z) (h4 : i.size = size) (h5 : i.bytes = bytes) (h6 : z.cells.size = size) (h7 : 0 < size)
    {g2 n2 cap2 : Nat} {xs : List Value} (ho : w.ownsRow 0 e size (.slice (some ⟨g2, 0, none⟩) n2 cap2) n2 xs)
    (ad : Option Addr) (m c : Nat) (news : List Value) (hn : news.length = m * size) (hnone : ad = none → m = 0 ∧ c = 0) (hsp : ∀ a, ad = some a → a.spot = none) (hc : ∀ a, ad = some a → ∀ j u, news[j]? = some u → w.cell? (a.add j) = some u) (h1c : ∀ u ∈ news, u.oneCell' = true)
    (b1 : n2 + m ≤ maxLen) (b2 : (n2 + m) * bytes ≤ 140737488355328) :
    ∃ g cap w', (Builtin.append_ #[t, t] ty #[.slice (some ⟨g2, 0, none⟩) n2 cap2, .slice ad m c]).run P w = .ok (.slice (some ⟨g, 0, none⟩) (n2 + m) cap) w' ∧ w'.ownsRow 0 e size (.slice (some ⟨g, 0, none⟩) (n2 + m) cap) (n2 + m) (xs ++ news) ∧ w.grownBy w' (some g2) ∧ (g = g2 ∨ g = w.heap.size) := by
  have hcp : n2 ≤ cap2 := by
    obtain ⟨_, ⟨e, _⟩ | ⟨g, cp, cur, e, _, _, hn, _⟩⟩ := id ho
    · cases e
    · injection e with _ e2 e3; omega
  cases ad with
  | none =>
    obtain ⟨rfl, rfl⟩ := hnone rfl
    obtain rfl : news = [] := List.eq_nil_of_length_eq_zero (by omega)
    exact ⟨g2, cap2, w, by simpa using run_append_owned_none (P := P) (w := w) 0 t ty e i size h1 h2 _ _ _ ho, by simpa using ho, World.grownBy.refl _ _, Or.inl rfl⟩
  | some a =>
    obtain ⟨b, off, spot⟩ := a
    obtain rfl : spot = none := hsp _ rfl
    rcases Nat.eq_zero_or_pos m with h0 | hpos
    · subst h0
      obtain rfl : news = [] := List.eq_nil_of_length_eq_zero (by omega)
      have := run_append_room_cells (P := P) (w := w) t ty e i h1 h2 g2 0 n2 cap2 ⟨b, off, none⟩ 0 c [] (by simp) (fun j u hj => by simp at hj) (fun u hu => by cases hu) (by omega) (fun j hj => absurd hj (by simp)) (fun j hj => absurd hj (by simp))
      exact ⟨g2, cap2, w, by simpa [World.setCells] using this, by simpa using ho, World.grownBy.refl _ _, Or.inl rfl⟩
    · obtain ⟨g3, cap3, w', hr, r1, r2, r3, _⟩ := run_append_lies (P := P) (w := w) t ty 0 e i z size bytes h1 h2 h3 h4 h5 h6 h7 _ _ _ ho ⟨b, off, none⟩ m c news hn (hc _ rfl) h1c hpos b1 b2 (Nat.zero_le _) _ rfl
      refine ⟨g3, cap3, w', hr, r1, r2, ?_⟩
      rcases r3 with r3 | r3
      · exact Or.inl (by simpa [Value.ownBlock] using r3.symm)
      · exact Or.inr r3
/-- The same, as one step of a statement whose order is drawn. -/
theorem step_app_any {P : Program} {ops : Array Oper} {o : Oper} {a : Act} {w : World} {K : Act → World → Prop} {Q : Exit → Act → World → Prop} {E : Prop}
    (hg : o.guard = none) (s x : Operand) (t : TypeId) (hop : o.op = Op.call { callee := Callee.builtin Builtin.append, args := #[s, x], argTypes := #[t, t] })
    (e : TypeId) (i : TypeInfo) (z : Value) (size bytes : Nat) (h1 : P.underlying t = some (.slice e)) (h2 : P.info? e = some i) (h3 : i.zero = some z) (h4 : i.size = size) (h5 : i.bytes = bytes) (h6 : z.cells.size = size) (h7 : 0 < size)
    {g2 n2 cap2 : Nat} {xs : List Value} (hs : a.eval s = .slice (some ⟨g2, 0, none⟩) n2 cap2) (ho : w.ownsRow 0 e size (.slice (some ⟨g2, 0, none⟩) n2 cap2) n2 xs)
    (ad : Option Addr) (m c : Nat) (news : List Value) (hx : a.eval x = .slice ad m c) (hn : news.length = m * size) (hnone : ad = none → m = 0 ∧ c = 0) (hsp : ∀ a, ad = some a → a.spot = none) (hc : ∀ a, ad = some a → ∀ j u, news[j]? = some u → w.cell? (a.add j) = some u) (h1c : ∀ u ∈ news, u.oneCell' = true)
    (b1 : n2 + m ≤ maxLen) (b2 : (n2 + m) * bytes ≤ 140737488355328) (N : Nat) (hN : n2 + m = N)
    (hK : ∀ g cap w', w'.ownsRow 0 e size (.slice (some ⟨g, 0, none⟩) N cap) N (xs ++ news) → w.grownBy w' (some g2) → (g = g2 ∨ g = w.heap.size) → K (a.put o.dst (.slice (some ⟨g, 0, none⟩) N cap)) w') :
    if Region.wanted o (yielded ops a.tmps) = true then Oper.wp P o a w K Q else E := by
  subst hN
  have hw : Region.wanted o (yielded ops a.tmps) = true := by simp [Region.wanted, hg]
  rw [if_pos hw]
  obtain ⟨g, cap, w', hrun, r1, r2, r3⟩ := run_app_any (P := P) (w := w) t o.type e i z size bytes h1 h2 h3 h4 h5 h6 h7 ho ad m c news hn hnone hsp hc h1c b1 b2
  unfold Oper.wp
  simp [execOp, hop, resolve, invoke, builtin, hs, hx, hrun, Result.andThen]
  exact hK g cap w' r1 r2 r3
/-- append, by its run. -/
theorem wpList_app_run {P : Program} {ops : Array Oper} {rest : List Oper} {o : Oper} {a : Act} {w w' : World} {Q : Exit → Act → World → Prop} {v u1 u2 : Value} (hgd : o.guard = none) (s x : Operand) (t : TypeId)
    (ho : o.op = .call { callee := .builtin .append, args := #[s, x], argTypes := #[t, t] }) (hs : a.eval s = u1) (hx : a.eval x = u2) (hr : (Builtin.append_ #[t, t] o.type #[u1, u2]).run P w = .ok v w')
    (h : wpList P ops Q rest (a.put o.dst v) w') : wpList P ops Q (o :: rest) a w :=
  wpList_plain hgd fun _ hK => by
    unfold Oper.wp
    simp [execOp, ho, resolve, invoke, builtin, hs, hx, hr, Result.andThen]
    exact hK _ _ h
/-- What stays while a row of the call's own grows. -/
theorem kp_gr {wx W w5 : World} {g2 : Nat} (hk : Kp [] wx W) (hg : W.grownBy w5 (some g2)) (hle : wx.heap.size ≤ g2) : Kp [] wx w5 := hk.trans (Kp.of hg) (by simp; omega)
end Go.Proofs.Ytcgmoadahdkbbaa
