/-
  Plain facts on worlds: what a row of bytes that the call itself made holds, and what stays as it was while such rows grow. Of no program.
  Tokens, plain: how a text is parted into words, numbers, texts and signs, how a token is written, and what follows. Of no program.
-/
import Derived.WalkKit
import Derived.WalkSpells
import Derived.Lib.AppendStr
import Derived.Lib.ItoaNum
import Derived.Lib.ItoaLen
import Derived.Lib.ParseIntBCases
namespace Go.Proofs.YtogklmljllocbabGreatDoor
open Go.RowKit

theorem hide {p : Prop} (h : p) : Hid p := h
theorem unhide {p : Prop} (h : Hid p) : p := h
theorem ret_int {k : IntKind} {a b : Int} (h : a = b) : Ending.returned (.int k a) = .returned (.int k b) := by rw [h]

theorem ret_bool {a b : Bool} (h : a = b) : Ending.returned (.bool a) = .returned (.bool b) := by rw [h]

/-- What stays: all blocks below B, and all that are no rows of the element type e. -/
structure Fr (B e : Nat) (w w' : World) : Prop where
  below : Below B w w'
  other : ∀ k, k < w.heap.size → (∀ cur f, w.heap[k]? ≠ some (.cells cur e f)) → w'.heap[k]? = w.heap[k]?
theorem Fr.refl (B e : Nat) (w : World) : Fr B e w w := ⟨Below.refl _ _, fun _ _ _ => rfl⟩
theorem Fr.trans {B e : Nat} {a b c : World} (h : Fr B e a b) (k : Fr B e b c) : Fr B e a c :=
  ⟨h.below.trans k.below, fun j hj hn => by
    have e1 := h.other j hj hn
    rw [k.other j (by have := h.below.size; omega) (fun cur f => by rw [e1]; exact hn cur f), e1]⟩
theorem Fr.mono {B B' e : Nat} {a b : World} (h : Fr B e a b) (hB : B' ≤ B) : Fr B' e a b := ⟨h.below.mono hB, h.other⟩
theorem Fr.drew {B e : Nat} {a w : World} (h : Fr B e a w) : Fr B e a w.drew := ⟨h.below.drew, h.other⟩
theorem Fr.alloc {B e : Nat} {a w : World} (h : Fr B e a w) (hB : B ≤ w.heap.size) (o : Obj) : Fr B e a (w.alloc o) :=
  ⟨h.below.alloc hB o, fun k hk hn => by rw [Below.heap_alloc _ _ _ (by have := h.below.size; omega)]; exact h.other k hk hn⟩
theorem Fr.grown {B e size n : Nat} {a w w' : World} {v : Value} {xs : List Value} (h : Fr B e a w) (ho : w.ownsRow B e size v n xs) (hg : w.grownBy w' v.ownBlock) (hB : B ≤ w.heap.size) : Fr B e a w' :=
  ⟨h.below.grown hg hB (fun k hk => (ho.lt k hk).1), fun k hk hn => by
    have e1 := h.other k hk hn
    rw [← e1]
    refine hg.block k (by have := h.below.size; omega) fun hv => ?_
    obtain ⟨_, ⟨rfl, _⟩ | ⟨g, cap, cur, rfl, _, hh, _⟩⟩ := ho
    · simp [Value.ownBlock] at hv
    · simp [Value.ownBlock] at hv
      subst hv
      exact hn cur (0, 0) (by rw [← e1]; exact hh)⟩
theorem Fr.size {B e : Nat} {a w : World} (h : Fr B e a w) : a.heap.size ≤ w.heap.size := h.below.size
/-- A block that is no row of that type is there still. -/
theorem Fr.keep {B e k : Nat} {a w : World} (h : Fr B e a w) {cur : Array Value} {t : TypeId} {f : Nat × Nat} (hb : a.heap[k]? = some (.cells cur t f)) (ht : t ≠ e) : w.heap[k]? = some (.cells cur t f) := by
  have hk : k < a.heap.size := by
    rcases Nat.lt_or_ge k a.heap.size with h1 | h1
    · exact h1
    · rw [Array.getElem?_eq_none h1] at hb; cases hb
  rw [h.other k hk (fun c g hc => by rw [hb] at hc; simp at hc; exact ht hc.2.1)]; exact hb

/-- append to a row of the call's own, as one step of a statement whose order is drawn. -/
theorem step_append_own {P : Program} {ops : Array Oper} {o : Oper} {a : Act} {w : World} {K : Act → World → Prop} {Q : Exit → Act → World → Prop} {E : Prop}
    (hg : o.guard = none) (s x : Operand) (t : TypeId) (hop : o.op = Op.call { callee := Callee.builtin Builtin.append, args := #[s, x], argTypes := #[t, t] })
    (base : Nat) (e : TypeId) (i : TypeInfo) (z : Value) (size bytes : Nat) (h1 : P.underlying t = some (.slice e)) (h2 : P.info? e = some i) (h3 : i.zero = some z) (h4 : i.size = size) (h5 : i.bytes = bytes) (h6 : z.cells.size = size) (h7 : 0 < size)
    (v : Value) (n : Nat) (xs : List Value) (hs : a.eval s = v) (hown : w.ownsRow base e size v n xs)
    (ad : Addr) (m c : Nat) (news : List Value) (hx : a.eval x = .slice (some ad) m c) (hn : news.length = m * size) (hc : ∀ j u, news[j]? = some u → w.cell? (ad.add j) = some u) (h1c : ∀ u ∈ news, u.oneCell' = true)
    (b1 : n + m ≤ maxLen) (b2 : (n + m) * bytes ≤ 140737488355328) (hb : base ≤ w.heap.size)
    (hK : ∀ v' w', w'.ownsRow base e size v' (n + m) (xs ++ news) → w.grownBy w' v.ownBlock → K (a.put o.dst v') w') :
    if Region.wanted o (yielded ops a.tmps) = true then Oper.wp P o a w K Q else E := by
  have hw : Region.wanted o (yielded ops a.tmps) = true := by simp [Region.wanted, hg]
  rw [if_pos hw]
  obtain ⟨v', w', hrun, r1, r2, _⟩ := run_append_own (P := P) w base t o.type e i z size bytes h1 h2 h3 h4 h5 h6 h7 v n xs hown ad m c news hn hc h1c b1 b2 hb
  unfold Oper.wp
  simp [execOp, hop, resolve, invoke, builtin, hs, hx, hrun, Result.andThen]
  exact hK v' w' r1 r2

/-- Bytes as cells. -/
def byteC (l : List UInt8) : List Value := l.map fun b => .int .u8 (b.toNat : Int)
theorem byteC_append (a b : List UInt8) : byteC (a ++ b) = byteC a ++ byteC b := by unfold byteC; exact List.map_append
theorem byteC_length (a : List UInt8) : (byteC a).length = a.length := by unfold byteC; exact List.length_map ..
theorem byteC_str (s : ByteArray) : Lib.strCells s = byteC s.data.toList := by
  unfold Lib.strCells byteC; rfl
theorem byteC_one (n : Nat) (h : n < 256) : [Value.int .u8 (n : Int)] = byteC [UInt8.ofNat n] := by
  unfold byteC; simp [Nat.mod_eq_of_lt h]
end Go.Proofs.YtogklmljllocbabGreatDoor
namespace Go.Proofs.YtogklmljllocbabGreatDoor

def isLet (b : UInt8) : Bool := decide (97 ≤ b.toNat) && decide (b.toNat ≤ 122)
def isDig (b : UInt8) : Bool := decide (48 ≤ b.toNat) && decide (b.toNat ≤ 57)
def isBlk (b : UInt8) : Bool := decide (b.toNat = 32) || decide (b.toNat = 10)
def isAln (b : UInt8) : Bool := isLet b || isDig b
def isIn (b : UInt8) : Bool := !(decide (b.toNat = 39) || decide (b.toNat = 10))
/-- How many at the front are such. -/
def spn (p : UInt8 → Bool) : List UInt8 → Nat
  | [] => 0
  | b :: r => if p b then spn p r + 1 else 0
theorem spn_le (p : UInt8 → Bool) (l : List UInt8) : spn p l ≤ l.length := by
  induction l with
  | nil => exact Nat.le_refl _
  | cons b r ih => rw [spn]; split <;> simp <;> omega
theorem spn_more {p : UInt8 → Bool} {l : List UInt8} {k : Nat} (h : k ≤ spn p l) (hk : k < l.length) (hp : p l[k] = true) : k + 1 ≤ spn p l := by
  induction l generalizing k with
  | nil => simp at hk
  | cons b r ih =>
    rw [spn] at h ⊢
    cases k with
    | zero => simp at hp; rw [if_pos hp]; omega
    | succ k =>
      split at h
      · rename_i hb
        rw [if_pos hb]
        have := ih (k := k) (by omega) (by simpa using hk) (by simpa using hp)
        omega
      · omega
theorem spn_stop {p : UInt8 → Bool} {l : List UInt8} {k : Nat} (h : k ≤ spn p l) (hp : ∀ hk : k < l.length, p l[k] = false) : k = spn p l := by
  induction l generalizing k with
  | nil => simp [spn] at h ⊢; exact h
  | cons b r ih =>
    rw [spn] at h ⊢
    cases k with
    | zero => have := hp (by simp); simp at this; rw [if_neg (by simp [this])]
    | succ k =>
      split at h
      · rename_i hb
        rw [if_pos hb]
        have := ih (k := k) (by omega) (fun hk => hp (by simpa using hk))
        omega
      · omega
theorem spn_take (p : UInt8 → Bool) (l : List UInt8) (k : Nat) : spn p (l.take k) = min (spn p l) k := by
  induction l generalizing k with
  | nil => simp [spn]
  | cons b r ih =>
    cases k with
    | zero => simp [spn]
    | succ k =>
      rw [List.take_succ_cons, spn, spn]
      split
      · rw [ih]; omega
      · omega
theorem spn_all {p : UInt8 → Bool} {l : List UInt8} (h : ∀ x ∈ l, p x = true) : spn p l = l.length := by
  induction l with
  | nil => rfl
  | cons b r ih => rw [spn, if_pos (h b (by simp)), ih (fun x hx => h x (by simp [hx]))]; simp
theorem spn_full {p : UInt8 → Bool} {a b : List UInt8} (h : spn p a = a.length) : spn p (a ++ b) = a.length + spn p b := by
  induction a with
  | nil => simp
  | cons c r ih =>
    rw [spn] at h
    split at h
    · rename_i hc
      rw [List.cons_append, spn, if_pos hc, ih (by simpa using h)]
      simp; omega
    · simp at h
theorem spn_lt {p : UInt8 → Bool} {a b : List UInt8} (h : spn p a < a.length) : spn p (a ++ b) = spn p a := by
  induction a with
  | nil => simp at h
  | cons c r ih =>
    rw [spn] at h
    rw [List.cons_append, spn, spn]
    split
    · rename_i hc
      rw [if_pos hc] at h
      rw [ih (by simpa using h)]
    · rfl
theorem spn_mem {p : UInt8 → Bool} {l : List UInt8} : ∀ x ∈ l.take (spn p l), p x = true := by
  induction l with
  | nil => simp
  | cons b r ih =>
    rw [spn]
    split
    · rename_i hb
      rw [List.take_succ_cons]
      intro x hx
      rcases List.mem_cons.1 hx with rfl | hx
      · exact hb
      · exact ih x hx
    · simp
theorem spn_drop {p : UInt8 → Bool} {l : List UInt8} : spn p (l.drop (spn p l)) = 0 := by
  induction l with
  | nil => rfl
  | cons b r ih =>
    by_cases hb : p b = true
    · rw [spn, if_pos hb, List.drop_succ_cons]; exact ih
    · rw [spn, if_neg hb, List.drop_zero, spn, if_neg hb]
/-- What digits say. -/
def dst (a : Nat) (c : UInt8) : Nat := a * 10 + (c.toNat - 48)
def dvl (a : Nat) (l : List UInt8) : Nat := l.foldl dst a
theorem dvl_nil (a : Nat) : dvl a [] = a := by unfold dvl; rw [List.foldl_nil]
theorem dvl_cons (a : Nat) (c : UInt8) (r : List UInt8) : dvl a (c :: r) = dvl (a * 10 + (c.toNat - 48)) r := by unfold dvl; rw [List.foldl_cons, dst]
theorem dvl_snoc (a : Nat) (l : List UInt8) (c : UInt8) : dvl a (l ++ [c]) = dvl a l * 10 + (c.toNat - 48) := by
  induction l generalizing a with
  | nil => rw [List.nil_append, dvl_cons, dvl_nil, dvl_nil]
  | cons b r ih => rw [List.cons_append, dvl_cons, ih, dvl_cons]
theorem dvl_ge (a : Nat) (l : List UInt8) : a ≤ dvl a l := by
  induction l generalizing a with
  | nil => rw [dvl_nil]; exact Nat.le_refl _
  | cons b r ih => rw [dvl_cons]; have := ih (a * 10 + (b.toNat - 48)); omega
theorem dig_iff (c : UInt8) : isDig c = true ↔ 48 ≤ c.toNat ∧ c.toNat ≤ 57 := by unfold isDig; simp
theorem dvl_parse (l : List UInt8) (a : Nat) (hl : ∀ x ∈ l, isDig x = true) (ha : a ≤ 18446744073709551615) :
    Lib.parseUintM 18446744073709551615 a l = if dvl a l ≤ 18446744073709551615 then .ok (dvl a l) else .range := by
  induction l generalizing a with
  | nil => rw [Lib.parseUintM, dvl_nil, if_pos ha]
  | cons c r ih =>
    have hc := (dig_iff c).1 (hl c (by simp))
    have hg := dvl_ge (a * 10 + (c.toNat - 48)) r
    rw [Lib.parseUintM, if_pos hc, dvl_cons]
    split
    · rw [if_neg (by omega)]
    · split
      · rw [if_neg (by omega)]
      · exact ih _ (fun x hx => hl x (by simp [hx])) (by omega)
/-- What the library's number of digits is. -/
theorem dvl_int (l : List UInt8) (hl : ∀ x ∈ l, isDig x = true) (h0 : l ≠ []) : Lib.parseIntB 64 l = if 9223372036854775807 < dvl 0 l then .range else .ok (dvl 0 l : Int) := by
  cases l with
  | nil => exact absurd rfl h0
  | cons c r =>
    have hc := (dig_iff c).1 (hl c (by simp))
    rw [Lib.parseIntB_plain 64 c r (by omega) (by omega), Lib.parseUintB, if_neg (by simp), show (2 : Nat) ^ 64 - 1 = 18446744073709551615 by decide, dvl_parse _ 0 hl (by omega)]
    split
    · unfold Lib.signlessC
      dsimp only
      by_cases h : 9223372036854775807 < dvl 0 (c :: r)
      · rw [if_pos h, if_pos (by omega)]
      · rw [if_neg h, if_neg (by omega)]
    · rw [if_pos (by omega)]
      rfl
theorem dvl_back (l : List UInt8) (hl : ∀ x ∈ l, isDig x = true) (h0 : l ≠ []) (hz : l.head? = some 48 → l.length = 1) : Lib.decDigits (dvl 0 l) = l := by
  induction h : l.length using Nat.strongRecOn generalizing l with
  | _ n ih =>
    obtain ⟨r, c, rfl⟩ : ∃ r c, l = r ++ [c] := ⟨l.dropLast, l.getLast h0, (List.dropLast_concat_getLast h0).symm⟩
    have hc := (dig_iff c).1 (hl c (by simp))
    have hcc : UInt8.ofNat (48 + (c.toNat - 48)) = c := by rw [show 48 + (c.toNat - 48) = c.toNat by omega]; simp
    rw [dvl_snoc]
    cases r with
    | nil =>
      rw [dvl_nil, Nat.zero_mul, Nat.zero_add, Lib.decDigits_one (by omega), hcc]; rfl
    | cons d r =>
      have hd := (dig_iff d).1 (hl d (by simp))
      have hd0 : d.toNat ≠ 48 := fun e => by
        have := hz (by simp; exact UInt8.toNat_inj.1 e)
        simp at this
      have h1 := ih (d :: r).length (by rw [← h]; simp) (d :: r) (fun x hx => hl x (by simp at hx ⊢; rcases hx with h | h <;> simp [h])) (by simp) (fun e => by simp at e; subst e; exact absurd rfl hd0) rfl
      have hg : 1 ≤ dvl 0 (d :: r) := by
        rw [dvl_cons]
        have := dvl_ge (0 * 10 + (d.toNat - 48)) r
        omega
      rw [Lib.decDigits, dif_neg (by omega), show (dvl 0 (d :: r) * 10 + (c.toNat - 48)) / 10 = dvl 0 (d :: r) by omega, show (dvl 0 (d :: r) * 10 + (c.toNat - 48)) % 10 = c.toNat - 48 by omega, h1, hcc]
/-- A token. -/
structure Tk where
  kd : Int
  s : ByteArray
  n : Int
  pl : Int
def txt (l : List UInt8) : ByteArray := ⟨l.toArray⟩
theorem txt_list (l : List UInt8) : (txt l).data.toList = l := rfl
theorem txt_size (l : List UInt8) : (txt l).size = l.length := rfl
theorem txt_self (b : ByteArray) : txt b.data.toList = b := by unfold txt; simp
/-- The same? -/
def tkEq (a b : Tk) : Bool := a.kd == b.kd && (a.s.data.toList == b.s.data.toList && (a.n == b.n && a.pl == b.pl))
theorem tkEq_iff (a b : Tk) : tkEq a b = true ↔ a = b := by
  obtain ⟨k, s, n, p⟩ := a
  obtain ⟨k', s', n', p'⟩ := b
  unfold tkEq
  simp only [Bool.and_eq_true, beq_iff_eq, Tk.mk.injEq]
  constructor
  · rintro ⟨h1, h2, h3, h4⟩
    exact ⟨h1, by rw [← txt_self s, ← txt_self s', h2], h3, h4⟩
  · rintro ⟨h1, h2, h3, h4⟩
    exact ⟨h1, by rw [h2], h3, h4⟩
def tkW (l : List UInt8) : Option (Tk × Nat) := if 32 < spn isAln l then none else some (⟨1, txt (l.take (spn isAln l)), 0, 0⟩, spn isAln l)
def tkN (l : List UInt8) : Option (Tk × Nat) := if l.head? = some 48 ∧ 1 < spn isDig l then none else if 9223372036854775807 < dvl 0 (l.take (spn isDig l)) then none else some (⟨2, txt [], (dvl 0 (l.take (spn isDig l)) : Nat), 0⟩, spn isDig l)
def tkT (r : List UInt8) : Option (Tk × Nat) := if 256 < spn isIn r then none else if (r.drop (spn isIn r)).head? = some 39 then some (⟨3, txt (r.take (spn isIn r)), 0, 0⟩, spn isIn r + 2) else none
def isTwo (b : UInt8) : Bool := decide (b.toNat = 60) || decide (b.toNat = 61) || decide (b.toNat = 33)
def isOne (b : UInt8) : Bool := decide (b.toNat = 60) || decide (b.toNat = 61) || decide (b.toNat = 58) || decide (b.toNat = 59) || decide (b.toNat = 46) || (decide (40 ≤ b.toNat) && decide (b.toNat ≤ 43)) || decide (b.toNat = 45)
def tkS (b : UInt8) (r : List UInt8) : Option (Tk × Nat) := if isTwo b = true ∧ r.head? = some 61 then some (⟨4, txt [b, 61], 0, 0⟩, 2) else if isOne b = true then some (⟨4, txt [b], 0, 0⟩, 1) else none
/-- The token that bytes begin with, and how many bytes it has. -/
def tkR : List UInt8 → Option (Tk × Nat)
  | [] => none
  | b :: r => if isLet b then tkW (b :: r) else if isDig b then tkN (b :: r) else if b.toNat = 39 then tkT r else tkS b r
/-- A token as it is written. -/
def spell (t : Tk) : List UInt8 := if t.kd = 2 then Lib.itoa t.n else if t.kd = 3 then 39 :: (t.s.data.toList ++ [39]) else t.s.data.toList
theorem spell_s {k : Int} {s : ByteArray} {n p : Int} (h2 : k ≠ 2) (h3 : k ≠ 3) : spell ⟨k, s, n, p⟩ = s.data.toList := by unfold spell; rw [if_neg h2, if_neg h3]
theorem spell_t {s : ByteArray} {n p : Int} : spell ⟨3, s, n, p⟩ = 39 :: (s.data.toList ++ [39]) := by unfold spell; rw [if_neg (by dsimp only; omega), if_pos rfl]
theorem spell_n {s : ByteArray} {n p : Int} : spell ⟨2, s, n, p⟩ = Lib.itoa n := by unfold spell; rw [if_pos rfl]
theorem itoa_nat (n : Nat) : Lib.itoa (n : Int) = Lib.decDigits n := by
  unfold Lib.itoa
  rw [if_neg (by omega), Int.toNat_natCast]
/-- What is read is written so. -/
theorem tkR_some {l : List UInt8} {t : Tk} {n : Nat} (h : tkR l = some (t, n)) : 0 < n ∧ n ≤ l.length ∧ spell t = l.take n ∧ t.pl = 0 ∧ 1 ≤ t.kd ∧ t.kd ≤ 4 ∧ t.s.size ≤ 256 ∧ 0 ≤ t.n ∧ t.n ≤ 9223372036854775807 ∧ (∃ b, l.head? = some b ∧ isBlk b = false) ∧ (t.kd ≠ 2 → t.n = 0) := by
  cases l with
  | nil => cases h
  | cons b r =>
    rw [tkR] at h
    split at h
    · rename_i hb
      have hal : isAln b = true := by unfold isAln; simp [hb]
      have h1 : 1 ≤ spn isAln (b :: r) := by rw [spn, if_pos hal]; omega
      have h2 := spn_le isAln (b :: r)
      unfold tkW at h
      split at h
      · cases h
      · simp only [Option.some.injEq, Prod.mk.injEq] at h
        obtain ⟨rfl, rfl⟩ := h
        refine ⟨h1, h2, ?_, rfl, by dsimp only; omega, by dsimp only; omega, ?_, by dsimp only; omega, by dsimp only; omega, ⟨b, rfl, ?_⟩, fun _ => rfl⟩
        · rw [spell_s (by omega) (by omega), txt_list]
        · rw [txt_size, List.length_take]; omega
        · unfold isLet at hb
          unfold isBlk
          simp at hb ⊢
          omega
    · split at h
      · rename_i hb
        have h1 : 1 ≤ spn isDig (b :: r) := by rw [spn, if_pos hb]; omega
        have h2 := spn_le isDig (b :: r)
        unfold tkN at h
        split at h
        · cases h
        · rename_i hz
          split at h
          · cases h
          · rename_i hv
            simp only [Option.some.injEq, Prod.mk.injEq] at h
            obtain ⟨rfl, rfl⟩ := h
            refine ⟨h1, h2, ?_, rfl, by dsimp only; omega, by dsimp only; omega, by rw [txt_size]; simp, by show (0 : Int) ≤ ((dvl 0 _ : Nat) : Int); omega, by show ((dvl 0 _ : Nat) : Int) ≤ _; omega, ⟨b, rfl, ?_⟩, fun e => absurd rfl e⟩
            · rw [spell_n]
              show Lib.itoa ((dvl 0 _ : Nat) : Int) = _
              rw [itoa_nat]
              refine dvl_back _ spn_mem ?_ ?_
              · intro e
                have := congrArg List.length e
                rw [List.length_take] at this
                simp only [List.length_nil] at this
                omega
              · intro e
                rw [List.length_take]
                have e2 : (b :: r).head? = some 48 := by
                  obtain ⟨m, hm⟩ : ∃ m, spn isDig (b :: r) = m + 1 := ⟨spn isDig (b :: r) - 1, by omega⟩
                  rw [hm, List.take_succ_cons] at e
                  exact e
                have : ¬ 1 < spn isDig (b :: r) := fun h3 => hz ⟨e2, h3⟩
                omega
            · have := (dig_iff b).1 hb
              unfold isBlk
              simp
              omega
      · split at h
        · rename_i hb
          unfold tkT at h
          split at h
          · cases h
          · split at h
            · rename_i hlen hq
              simp only [Option.some.injEq, Prod.mk.injEq] at h
              obtain ⟨rfl, rfl⟩ := h
              have hlt : spn isIn r < r.length := by
                rcases Nat.lt_or_ge (spn isIn r) r.length with h | h
                · exact h
                · rw [List.drop_eq_nil_of_le h] at hq; cases hq
              refine ⟨by omega, by simp; omega, ?_, rfl, by dsimp only; omega, by dsimp only; omega, ?_, by dsimp only; omega, by dsimp only; omega, ⟨b, rfl, ?_⟩, fun _ => rfl⟩
              · rw [spell_t, txt_list, List.take_succ_cons, show b = 39 from UInt8.toNat_inj.1 hb, List.take_add_one]
                rw [List.head?_drop] at hq
                rw [hq]
                rfl
              · rw [txt_size, List.length_take]; omega
              · unfold isBlk; simp; omega
            · cases h
        · rename_i hb
          unfold tkS at h
          split at h
          · rename_i h2
            simp only [Option.some.injEq, Prod.mk.injEq] at h
            obtain ⟨rfl, rfl⟩ := h
            obtain ⟨ht, hh⟩ := h2
            cases r with
            | nil => cases hh
            | cons c r =>
              simp at hh
              subst hh
              refine ⟨by omega, by simp, ?_, rfl, by dsimp only; omega, by dsimp only; omega, by rw [txt_size]; simp, by dsimp only; omega, by dsimp only; omega, ⟨b, rfl, ?_⟩, fun _ => rfl⟩
              · rw [spell_s (by omega) (by omega), txt_list]
                rfl
              · unfold isTwo at ht
                unfold isBlk
                simp at ht ⊢
                omega
          · split at h
            · rename_i h1
              simp only [Option.some.injEq, Prod.mk.injEq] at h
              obtain ⟨rfl, rfl⟩ := h
              refine ⟨by omega, by simp, ?_, rfl, by dsimp only; omega, by dsimp only; omega, by rw [txt_size]; simp, by dsimp only; omega, by dsimp only; omega, ⟨b, rfl, ?_⟩, fun _ => rfl⟩
              · rw [spell_s (by omega) (by omega), txt_list]
                rfl
              · unfold isOne at h1
                unfold isBlk
                simp at h1 ⊢
                omega
            · cases h
end Go.Proofs.YtogklmljllocbabGreatDoor
