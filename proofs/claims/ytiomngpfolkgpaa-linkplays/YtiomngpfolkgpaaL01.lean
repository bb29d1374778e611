/-
  Plain facts on worlds: what a row of bytes that the call itself made holds, and what stays as it was while such rows grow. Of no program.
  Plain facts on numbers, bytes and sums, of no program: the numbers that a signed number stands for, the table's step of the sum, that it is one to one.
  Plain facts on a number's bytes: groups of seven bits, the highest first.
  The library's contracts at this program, laid by the guide's own tools: how many bits a number has, and a copy of a string.
  Rows of bytes of the call's own; such a row as a string; strings.Clone returns the same bytes.
  The leaves: fold and unfold return what the plain functions say, and leave the world as it was; strings.Clone returns the same bytes.
-/
import Derived.WalkKit
import Derived.WalkSpells
import Derived.Lib.AppendStr
import Derived.Lib.BitFns
import Derived.Shelf.Strconv.Itoa0
import Derived.Shelf.LaysM
import Derived.Shelf.Strconv.Clone
import Derived.Test.YtiomngpfolkgpaaProg
import Derived.Test.YtiomngpfolkgpaaChecked
import Derived.WalkLawsBesides
import Derived.Laws.DeepNot64
import Derived.SliceStrings
namespace Go.Proofs.Ytiomngpfolkgpaa
open Go.RowKit

theorem hide {p : Prop} (h : p) : Hid p := h
theorem unhide {p : Prop} (h : Hid p) : p := h
theorem ret_int {k : IntKind} {a b : Int} (h : a = b) : Ending.returned (.int k a) = .returned (.int k b) := by rw [h]

theorem ret_bool {a b : Bool} (h : a = b) : Ending.returned (.bool a) = .returned (.bool b) := by rw [h]

/-- What stays: all blocks below B, and all that are no rows of the element type e. -/
structure Fr (B e : Nat) (w w' : World) : Prop where
  below : Below B w w'
  other : ∀ k, k < w.heap.size → (∀ cur f, w.heap[k]? ≠ some (.cells cur e f)) → w'.heap[k]? = w.heap[k]?
theorem Fr.refl (B e : Nat) (w : World) : Fr B e w w := ⟨Below.refl _ _, fun _ _ _ => rfl⟩
theorem Fr.trans {B e : Nat} {a b c : World} (h : Fr B e a b) (k : Fr B e b c) : Fr B e a c :=
  ⟨h.below.trans k.below, fun j hj hn => by
    have e1 := h.other j hj hn
    rw [k.other j (by have := h.below.size; omega) (fun cur f => by rw [e1]; exact hn cur f), e1]⟩
theorem Fr.mono {B B' e : Nat} {a b : World} (h : Fr B e a b) (hB : B' ≤ B) : Fr B' e a b := ⟨h.below.mono hB, h.other⟩
theorem Fr.drew {B e : Nat} {a w : World} (h : Fr B e a w) : Fr B e a w.drew := ⟨h.below.drew, h.other⟩
theorem Fr.alloc {B e : Nat} {a w : World} (h : Fr B e a w) (hB : B ≤ w.heap.size) (o : Obj) : Fr B e a (w.alloc o) :=
  ⟨h.below.alloc hB o, fun k hk hn => by rw [Below.heap_alloc _ _ _ (by have := h.below.size; omega)]; exact h.other k hk hn⟩
theorem Fr.grown {B e size n : Nat} {a w w' : World} {v : Value} {xs : List Value} (h : Fr B e a w) (ho : w.ownsRow B e size v n xs) (hg : w.grownBy w' v.ownBlock) (hB : B ≤ w.heap.size) : Fr B e a w' :=
  ⟨h.below.grown hg hB (fun k hk => (ho.lt k hk).1), fun k hk hn => by
    have e1 := h.other k hk hn
    rw [← e1]
    refine hg.block k (by have := h.below.size; omega) fun hv => ?_
    obtain ⟨_, ⟨rfl, _⟩ | ⟨g, cap, cur, rfl, _, hh, _⟩⟩ := ho
    · simp [Value.ownBlock] at hv
    · simp [Value.ownBlock] at hv
      subst hv
      exact hn cur (0, 0) (by rw [← e1]; exact hh)⟩
theorem Fr.size {B e : Nat} {a w : World} (h : Fr B e a w) : a.heap.size ≤ w.heap.size := h.below.size
/-- A block that is no row of that type is there still. -/
theorem Fr.keep {B e k : Nat} {a w : World} (h : Fr B e a w) {cur : Array Value} {t : TypeId} {f : Nat × Nat} (hb : a.heap[k]? = some (.cells cur t f)) (ht : t ≠ e) : w.heap[k]? = some (.cells cur t f) := by
  have hk : k < a.heap.size := by
    rcases Nat.lt_or_ge k a.heap.size with h1 | h1
    · exact h1
    · rw [Array.getElem?_eq_none h1] at hb; cases hb
  rw [h.other k hk (fun c g hc => by rw [hb] at hc; simp at hc; exact ht hc.2.1)]; exact hb

/-- append to a row of the call's own, as one step of a statement whose order is drawn. -/
theorem step_append_own {P : Program} {ops : Array Oper} {o : Oper} {a : Act} {w : World} {K : Act → World → Prop} {Q : Exit → Act → World → Prop} {E : Prop}
    (hg : o.guard = none) (s x : Operand) (t : TypeId) (hop : o.op = Op.call { callee := Callee.builtin Builtin.append, args := #[s, x], argTypes := #[t, t] })
    (base : Nat) (e : TypeId) (i : TypeInfo) (z : Value) (size bytes : Nat) (h1 : P.underlying t = some (.slice e)) (h2 : P.info? e = some i) (h3 : i.zero = some z) (h4 : i.size = size) (h5 : i.bytes = bytes) (h6 : z.cells.size = size) (h7 : 0 < size)
    (v : Value) (n : Nat) (xs : List Value) (hs : a.eval s = v) (hown : w.ownsRow base e size v n xs)
    (ad : Addr) (m c : Nat) (news : List Value) (hx : a.eval x = .slice (some ad) m c) (hn : news.length = m * size) (hc : ∀ j u, news[j]? = some u → w.cell? (ad.add j) = some u) (h1c : ∀ u ∈ news, u.oneCell' = true)
    (b1 : n + m ≤ maxLen) (b2 : (n + m) * bytes ≤ 140737488355328) (hb : base ≤ w.heap.size)
    (hK : ∀ v' w', w'.ownsRow base e size v' (n + m) (xs ++ news) → w.grownBy w' v.ownBlock → K (a.put o.dst v') w') :
    if Region.wanted o (yielded ops a.tmps) = true then Oper.wp P o a w K Q else E := by
  have hw : Region.wanted o (yielded ops a.tmps) = true := by simp [Region.wanted, hg]
  rw [if_pos hw]
  obtain ⟨v', w', hrun, r1, r2, _⟩ := run_append_own (P := P) w base t o.type e i z size bytes h1 h2 h3 h4 h5 h6 h7 v n xs hown ad m c news hn hc h1c b1 b2 hb
  unfold Oper.wp
  simp [execOp, hop, resolve, invoke, builtin, hs, hx, hrun, Result.andThen]
  exact hK v' w' r1 r2

/-- Bytes as cells. -/
def byteC (l : List UInt8) : List Value := l.map fun b => .int .u8 (b.toNat : Int)
theorem byteC_append (a b : List UInt8) : byteC (a ++ b) = byteC a ++ byteC b := by unfold byteC; exact List.map_append
theorem byteC_length (a : List UInt8) : (byteC a).length = a.length := by unfold byteC; exact List.length_map ..
theorem byteC_str (s : ByteArray) : Lib.strCells s = byteC s.data.toList := by
  unfold Lib.strCells byteC; rfl
theorem byteC_one (n : Nat) (h : n < 256) : [Value.int .u8 (n : Int)] = byteC [UInt8.ofNat n] := by
  unfold byteC; simp [Nat.mod_eq_of_lt h]
end Go.Proofs.Ytiomngpfolkgpaa
namespace Go.Proofs.Ytiomngpfolkgpaa

/-- A signed number as one that is not below 0. -/
def zig (n : Int) : Nat := if n < 0 then (-2 * n - 1).toNat else (2 * n).toNat
/-- And back. -/
def unzig (u : Nat) : Int := if u % 2 = 1 then -((u / 2 : Nat) : Int) - 1 else ((u / 2 : Nat) : Int)
theorem zig_neg {n : Int} (h : n < 0) : ((zig n : Nat) : Int) = -2 * n - 1 := by unfold zig; rw [if_pos h]; omega
theorem zig_pos {n : Int} (h : 0 ≤ n) : ((zig n : Nat) : Int) = 2 * n := by unfold zig; rw [if_neg (by omega)]; omega
theorem zig_lt {n : Int} (h0 : -9223372036854775808 ≤ n) (h1 : n < 9223372036854775808) : zig n < 18446744073709551616 := by
  unfold zig; split <;> omega
theorem unzig_zig (n : Int) : unzig (zig n) = n := by
  by_cases h : n < 0
  · have := zig_neg h; unfold unzig; rw [if_pos (by omega)]; omega
  · have := zig_pos (by omega : 0 ≤ n); unfold unzig; rw [if_neg (by omega)]; omega
theorem zig_unzig (u : Nat) : zig (unzig u) = u := by
  unfold unzig; split
  · unfold zig; rw [if_pos (by omega)]; omega
  · unfold zig; rw [if_neg (by omega)]; omega
theorem unzig_lo {u : Nat} (h : u < 18446744073709551616) : -9223372036854775808 ≤ unzig u ∧ unzig u < 9223372036854775808 := by
  unfold unzig; split <;> omega

theorem xor_cancel_r {a b c : Nat} (h : a ^^^ c = b ^^^ c) : a = b := by
  have e := congrArg (· ^^^ c) h
  simpa [Nat.xor_assoc] using e
theorem xor_cancel_l {a b c : Nat} (h : c ^^^ a = c ^^^ b) : a = b := by
  rw [Nat.xor_comm c a, Nat.xor_comm c b] at h; exact xor_cancel_r h
theorem xor_ones (w a : Nat) (h : a < 2 ^ w) : (2 ^ w - 1) ^^^ a = 2 ^ w - 1 - a := by
  apply Nat.eq_of_testBit_eq
  intro i
  rw [show 2 ^ w - 1 - a = 2 ^ w - (a + 1) by omega, Nat.testBit_two_pow_sub_succ h, Nat.testBit_xor, Nat.testBit_two_pow_sub_one]
  by_cases hi : i < w
  · simp [hi]
  · have : a.testBit i = false := Nat.testBit_lt_two_pow (Nat.lt_of_lt_of_le h (Nat.pow_le_pow_right (by omega) (by omega)))
    simp [hi, this]
theorem u64_not (a : Nat) (h : a < 18446744073709551616) : bits .xor .u64 (18446744073709551615 : Int) (a : Int) = ((18446744073709551615 - a : Nat) : Int) := by
  have e := u64_xor_nat 18446744073709551615 a (by omega) h
  have x := xor_ones 64 a h
  rw [show (18446744073709551615 : Nat) ^^^ a = 18446744073709551615 - a from x] at e
  exact e
theorem u32_not (a : Nat) (h : a < 4294967296) : bits .xor .u32 (4294967295 : Int) (a : Int) = ((4294967295 - a : Nat) : Int) := by
  have e := u32_xor_nat 4294967295 a (by omega) h
  have x := xor_ones 32 a h
  rw [show (4294967295 : Nat) ^^^ a = 4294967295 - a from x] at e
  exact e

-- The sum.
def tabL : List Nat := [0, 274646895, 549293790, 820201905, 1098587580, 1361435347, 1640403810, 1905808397, 2197175160, 2460548119, 2722870694, 2987750089, 3280807620, 3553878443, 3811616794, 4084100981]
def tabF (i : Nat) : Nat := tabL.getD i 0
def nib (s : Nat) : Nat := (s / 16) ^^^ tabF (s % 16)
def stepB (s b : Nat) : Nat := nib (nib (s ^^^ b))
def sumL (s : Nat) (l : List UInt8) : Nat := l.foldl (fun s b => stepB s b.toNat) s

theorem tabF_lt (i : Nat) (h : i < 16) : tabF i < 4294967296 := by
  have : ∀ i : Fin 16, tabF i.val < 4294967296 := by decide +kernel
  exact this ⟨i, h⟩
theorem tabF_top (i : Nat) (h : i < 16) : tabF i / 268435456 = i := by
  have : ∀ i : Fin 16, tabF i.val / 268435456 = i.val := by decide +kernel
  exact this ⟨i, h⟩
theorem nib_lt {s : Nat} (h : s < 4294967296) : nib s < 4294967296 := by
  unfold nib
  exact Nat.xor_lt_two_pow (n := 32) (by omega) (tabF_lt _ (by omega))
theorem stepB_lt {s b : Nat} (h : s < 4294967296) (hb : b < 256) : stepB s b < 4294967296 :=
  nib_lt (nib_lt (Nat.xor_lt_two_pow (n := 32) h (by omega)))
theorem sumL_lt {s : Nat} (l : List UInt8) (h : s < 4294967296) : sumL s l < 4294967296 := by
  induction l generalizing s with
  | nil => exact h
  | cons b t ih => exact ih (stepB_lt h b.toNat_lt)
theorem sumL_append (s : Nat) (a b : List UInt8) : sumL s (a ++ b) = sumL (sumL s a) b := by unfold sumL; rw [List.foldl_append]
theorem sumL_snoc (s : Nat) (l : List UInt8) (b : UInt8) : sumL s (l ++ [b]) = stepB (sumL s l) b.toNat := by rw [sumL_append]; rfl
theorem sumL_cons (s : Nat) (b : UInt8) (l : List UInt8) : sumL s (b :: l) = sumL (stepB s b.toNat) l := rfl

theorem nib_top {s : Nat} (h : s < 4294967296) : nib s / 268435456 = s % 16 := by
  have e : nib s / 2 ^ 28 = (s / 16) / 2 ^ 28 ^^^ tabF (s % 16) / 2 ^ 28 := by unfold nib; exact Nat.xor_div_two_pow
  have t := tabF_top (s % 16) (by omega)
  rw [show (268435456 : Nat) = 2 ^ 28 from rfl] at t ⊢
  rw [e, t, Nat.div_eq_of_lt (by omega), Nat.zero_xor]
theorem nib_inj {s t : Nat} (hs : s < 4294967296) (ht : t < 4294967296) (h : nib s = nib t) : s = t := by
  have a := nib_top hs; have b := nib_top ht
  rw [h] at a
  have c : s % 16 = t % 16 := by omega
  unfold nib at h
  rw [c] at h
  have d := xor_cancel_r h
  omega
theorem stepB_inj {s t b c : Nat} (hs : s < 4294967296) (ht : t < 4294967296) (hb : b < 256) (hc : c < 256) (h : stepB s b = stepB t c) : s ^^^ b = t ^^^ c := by
  have x1 := Nat.xor_lt_two_pow (n := 32) hs (by omega : b < 2 ^ 32)
  have x2 := Nat.xor_lt_two_pow (n := 32) ht (by omega : c < 2 ^ 32)
  exact nib_inj x1 x2 (nib_inj (nib_lt x1) (nib_lt x2) h)
/-- Sums that are unlike stay unlike. -/
theorem sumL_inj {s t : Nat} (l : List UInt8) (hs : s < 4294967296) (ht : t < 4294967296) (h : sumL s l = sumL t l) : s = t := by
  induction l generalizing s t with
  | nil => exact h
  | cons b r ih =>
    have e := ih (stepB_lt hs b.toNat_lt) (stepB_lt ht b.toNat_lt) h
    exact xor_cancel_r (stepB_inj hs ht b.toNat_lt b.toNat_lt e)
/-- One byte that is another one makes another sum. -/
theorem sumL_byte {s : Nat} (a r : List UInt8) {b c : UInt8} (hs : s < 4294967296) (hbc : b ≠ c) : sumL s (a ++ b :: r) ≠ sumL s (a ++ c :: r) := by
  intro h
  rw [sumL_append, sumL_append, sumL_cons, sumL_cons] at h
  have la := sumL_lt a hs
  have e := sumL_inj r (stepB_lt la b.toNat_lt) (stepB_lt la c.toNat_lt) h
  have x := stepB_inj la la b.toNat_lt c.toNat_lt e
  exact hbc (UInt8.toNat_inj.1 (xor_cancel_l x))
theorem sumL_noughts (n : Nat) : sumL 4294967295 (List.replicate n 0) ≠ sumL 4294967295 (List.replicate (n + 1) 0) := by
  intro h
  rw [List.replicate_succ, sumL_cons] at h
  have := sumL_inj _ (by omega) (stepB_lt (by omega) (by decide)) h
  exact absurd this (by decide +kernel)
end Go.Proofs.Ytiomngpfolkgpaa
namespace Go.Proofs.Ytiomngpfolkgpaa

/-- The bytes ahead of the last one. -/
def hiF : Nat → Nat → List UInt8
  | 0, _ => []
  | f + 1, u => if u = 0 then [] else hiF f (u / 128) ++ [UInt8.ofNat (u % 128 + 128)]
theorem hiF_more (f u : Nat) (h : u ≤ f) : hiF f u = hiF u u := by
  induction f using Nat.strongRecOn generalizing u with
  | ind f ih =>
    cases f with
    | zero => obtain rfl : u = 0 := by omega
              rfl
    | succ f =>
      cases u with
      | zero => rfl
      | succ u =>
        rw [hiF, hiF, if_neg (by omega), if_neg (by omega), ih f (by omega) ((u + 1) / 128) (by omega)]
        by_cases hfu : u = f
        · rw [hfu, ih f (by omega) ((f + 1) / 128) (by omega)]
        · rw [ih u (by omega) ((u + 1) / 128) (by omega)]
def hiB (u : Nat) : List UInt8 := hiF u u
/-- A number's bytes. -/
def numB (u : Nat) : List UInt8 := hiB (u / 128) ++ [UInt8.ofNat (u % 128)]
theorem hiB_zero : hiB 0 = [] := rfl
theorem hiB_step {u : Nat} (h : u ≠ 0) : hiB u = hiB (u / 128) ++ [UInt8.ofNat (u % 128 + 128)] := by
  obtain ⟨k, rfl⟩ : ∃ k, u = k + 1 := ⟨u - 1, by omega⟩
  unfold hiB
  rw [hiF, if_neg (by omega), hiF_more k ((k + 1) / 128) (by omega)]

theorem bitLen_spec (x : Nat) (hx : x < 2 ^ 64) : x < 2 ^ Lib.bitLen x ∧ (x ≠ 0 → 2 ^ (Lib.bitLen x - 1) ≤ x) := by
  induction x using Nat.strongRecOn with
  | ind x ih =>
    by_cases h0 : x = 0
    · subst h0; refine ⟨by decide, fun h => absurd rfl h⟩
    · obtain ⟨a, b⟩ := ih (x / 2) (by omega) (by omega)
      rw [Lib.bitLen_half x h0 hx]
      by_cases h1 : x / 2 = 0
      · rw [h1, show Lib.bitLen 0 = 0 by decide]; refine ⟨by omega, fun _ => by omega⟩
      · have b' := b h1
        generalize Lib.bitLen (x / 2) = k at *
        rw [show 1 + k = k + 1 by omega, Nat.pow_succ]
        refine ⟨by omega, fun _ => ?_⟩
        rw [Nat.add_sub_cancel]
        rcases Nat.eq_zero_or_pos k with hk | hk
        · subst hk; simp at a; omega
        · obtain ⟨j, rfl⟩ : ∃ j, k = j + 1 := ⟨k - 1, by omega⟩
          rw [Nat.add_sub_cancel] at b'
          rw [Nat.pow_succ]; omega
/-- How many groups of seven bits. -/
def grps (u : Nat) : Nat := max 1 ((Lib.bitLen u + 6) / 7)
theorem bitLen_le64 {u : Nat} (h : u < 2 ^ 64) : Lib.bitLen u ≤ 64 := Lib.bitLen_le u 64 (by omega) h
theorem grps_le {u : Nat} (h : u < 2 ^ 64) : 1 ≤ grps u ∧ grps u ≤ 10 := by have := bitLen_le64 h; unfold grps; omega
theorem pow128 (g : Nat) : 128 ^ g = 2 ^ (7 * g) := by rw [Nat.pow_mul]
theorem grps_top {u : Nat} (h : u < 2 ^ 64) : u / 128 ^ grps u = 0 := by
  refine Nat.div_eq_of_lt ?_
  rw [pow128]
  refine Nat.lt_of_lt_of_le (bitLen_spec u h).1 (Nat.pow_le_pow_right (by omega) ?_)
  unfold grps; omega
theorem grps_in {u g : Nat} (h : u < 2 ^ 64) (h1 : 1 ≤ g) (h2 : g < grps u) : u / 128 ^ g ≠ 0 := by
  have hu : u ≠ 0 := by
    intro e; subst e; unfold grps at h2; rw [show Lib.bitLen 0 = 0 by decide] at h2; omega
  have b := (bitLen_spec u h).2 hu
  have : 128 ^ g ≤ u := by
    rw [pow128]
    refine Nat.le_trans (Nat.pow_le_pow_right (by omega) ?_) b
    unfold grps at h2; omega
  have := Nat.div_pos this (Nat.pow_pos (by omega))
  omega
theorem hiB_round {u g : Nat} (h : u < 2 ^ 64) (h1 : 1 ≤ g) (h2 : g < grps u) : hiB (u / 128 ^ g) = hiB (u / 128 ^ (g + 1)) ++ [UInt8.ofNat (u / 128 ^ g % 128 + 128)] := by
  rw [hiB_step (grps_in h h1 h2), Nat.div_div_eq_div_mul, Nat.pow_succ]
theorem hiB_length {u : Nat} (k : Nat) (h : u < 128 ^ k) : (hiB u).length ≤ k := by
  induction k generalizing u with
  | zero => obtain rfl : u = 0 := by simpa using h
            rw [hiB_zero]; exact Nat.zero_le _
  | succ k ih =>
    by_cases h0 : u = 0
    · subst h0; rw [hiB_zero]; exact Nat.zero_le _
    · rw [hiB_step h0, List.length_append]
      have := ih (u := u / 128) (by rw [Nat.pow_succ] at h; exact Nat.div_lt_of_lt_mul (by rw [Nat.mul_comm]; exact h))
      simp only [List.length_cons, List.length_nil]; omega
theorem numB_length {u : Nat} (h : u < 2 ^ 64) : 1 ≤ (numB u).length ∧ (numB u).length ≤ 10 := by
  unfold numB
  have := hiB_length (u := u / 128) 9 (Nat.div_lt_of_lt_mul (Nat.lt_of_lt_of_le h (by decide)))
  rw [List.length_append]; simp only [List.length_cons, List.length_nil]; omega
/-- A group's byte in the walk's own form. -/
theorem byte_hi (q : Nat) : bits .or .u8 (bits .and .u8 ((q % 256 : Nat) : Int) 127) 128 = ((q % 128 + 128 : Nat) : Int) := by
  have a := u8_and_nat (q % 256) 127 (by omega) (by omega)
  rw [nat_mask7] at a
  rw [show ((127 : Nat) : Int) = 127 from rfl] at a
  rw [a]
  have o := u8_or_nat 128 (q % 256 % 128) (by omega) (by omega)
  have c := u8_or_nat (q % 256 % 128) 128 (by omega) (by omega)
  rw [Nat.or_comm, nat_join 7 128 (q % 256 % 128) (by decide) (by omega)] at c
  rw [show ((128 : Nat) : Int) = 128 from rfl] at c
  rw [c]; congr 1; omega
theorem byte_lo (q : Nat) : bits .and .u8 ((q % 256 : Nat) : Int) 127 = ((q % 128 : Nat) : Int) := by
  have a := u8_and_nat (q % 256) 127 (by omega) (by omega)
  rw [nat_mask7] at a
  rw [show ((127 : Nat) : Int) = 127 from rfl] at a
  rw [a]; congr 1; omega
end Go.Proofs.Ytiomngpfolkgpaa
namespace Go.Proofs
open Go.Shelf
def Try.lays129_ren : Go.Shelf.Ren := ⟨fun | 129 => 60 | n => n, fun | 53 => 114 | 3 => 3 | 4 => 4 | 46 => 116 | 5 => 5 | 9 => 9 | n => n, fun | n => n⟩
theorem Try.lays129 : Go.Proofs.Lays.n129 Try.prog Try.lays129_ren := {
  mixed := by kernel_rfl
  f129 := Try.func60.trans (congrArg some (by kernel_rfl))
  t3 := Try.underlying3
  a3 := Try.isAgg3
  z3 := Try.sizeOf3
  v3 := Try.zeroValue3
  t4 := Try.underlying4
  a4 := Try.isAgg4
  z4 := Try.sizeOf4
  v4 := Try.zeroValue4
  t5 := Try.underlying5
  a5 := Try.isAgg5
  z5 := Try.sizeOf5
  v5 := Try.zeroValue5
  t9 := Try.underlying9
  a9 := Try.isAgg9
  z9 := Try.sizeOf9
  v9 := Try.zeroValue9
  t46 := Try.underlying116
  a46 := Try.isAgg116
  z46 := Try.sizeOf116
  v46 := Try.zeroValue116
  t53 := Try.underlying114
  a53 := Try.isAgg114
  z53 := Try.sizeOf114
  v53 := Try.zeroValue114 }
theorem Try.bits_Len64 (x : Int) (w : World) (h0 : 0 ≤ x) (h1 : x ≤ 18446744073709551615) :
    Calls Try.prog 60 #[.int .u64 x] w fun e w' => e = .returned (.int .i64 (Lib.bitLen x.toNat)) ∧ w' = w := Any.bits_Len64 Try.lays129 x w h0 h1
def Try.laysM316_ren : Go.Shelf.Ren := ⟨fun | 316 => 36 | n => n, fun | 9 => 9 | 3 => 3 | 4 => 4 | 37 => 99 | 0 => 0 | 127 => 100 | 5 => 5 | n => n, fun | n => n⟩
theorem Try.laysM316 : Go.Proofs.LaysM.n316 Try.prog Try.laysM316_ren := {
  mixed := by kernel_rfl
  f316 := Try.func36.trans (congrArg some (by kernel_rfl))
  t0 := Try.underlying0
  a0 := Try.isAgg0
  z0 := Try.sizeOf0
  v0 := Try.zeroValue0
  t3 := Try.underlying3
  a3 := Try.isAgg3
  z3 := Try.sizeOf3
  v3 := Try.zeroValue3
  t4 := Try.underlying4
  a4 := Try.isAgg4
  z4 := Try.sizeOf4
  v4 := Try.zeroValue4
  t9 := Try.underlying9
  a9 := Try.isAgg9
  z9 := Try.sizeOf9
  v9 := Try.zeroValue9
  t37 := Try.underlying99
  a37 := Try.isAgg99
  z37 := Try.sizeOf99
  v37 := Try.zeroValue99
  t127 := Try.underlying100
  a127 := Try.isAgg100
  z127 := Try.sizeOf100
  v127 := Try.zeroValue100
  t5 := Try.underlying5
  a5 := Try.isAgg5
  z5 := Try.sizeOf5
  v5 := Try.zeroValue5
  i0 := by kernel_rfl
  i3 := by kernel_rfl
  i4 := by kernel_rfl
  i5 := by kernel_rfl
  i9 := by kernel_rfl
  i37 := by kernel_rfl
  i127 := by kernel_rfl }
open Go.RowKit in
theorem Try.stringslite_Clone (s : ByteArray) (w : World) (hlim : s.size ≤ 281474976710656) :
    Calls Try.prog 36 #[.string s] w fun e w' => e = .returned (.string s) ∧ Below w.heap.size w w' := Any.stringslite_Clone Try.laysM316 s w hlim
end Go.Proofs
namespace Go.Proofs.Ytiomngpfolkgpaa
open Go.RowKit

theorem info_u8 : (Try.prog.info? 5).map (fun i => (i.zero, i.size, i.bytes)) = some (some (.int .u8 0), 1, 1) := by kernel_rfl
/-- A row of bytes of the call's own. -/
def Owns (B : Nat) (w : World) (v : Value) (l : List UInt8) : Prop := w.ownsRow B 5 1 v l.length (byteC l)
theorem Owns.nil (B : Nat) (w : World) : Owns B w (.slice none 0 0) [] := World.ownsRow_nil _ _ _ _
theorem Owns.alloc {B : Nat} {w : World} {v : Value} {l : List UInt8} (h : Owns B w v l) (o : Obj) : Owns B (w.alloc o) v l := World.ownsRow.alloc h o
theorem Owns.drew {B : Nat} {w : World} {v : Value} {l : List UInt8} (h : Owns B w v l) : Owns B w.drew v l := h
theorem Owns.form {B : Nat} {w : World} {v : Value} {l : List UInt8} (h : Owns B w v l) : ∃ ad cp, v = .slice ad l.length cp := by
  obtain ⟨_, ⟨rfl, h0⟩ | ⟨g, cp, cur, rfl, _⟩⟩ := h
  · exact ⟨_, _, by rw [h0]⟩
  · exact ⟨_, _, rfl⟩
theorem strOf_bytes (l : List UInt8) : strOfNums (l.map fun b => (b.toNat : Int)) = ⟨l.toArray⟩ := by
  unfold strOfNums; congr 1; simp [List.map_map, Function.comp_def]
/-- The row's bytes as a string. -/
theorem Owns.string {B : Nat} {w : World} {v : Value} {l : List UInt8} (h : Owns B w v l) : (convert 99 9 v).run Try.prog w = .ok (.string ⟨l.toArray⟩) w := by
  obtain ⟨hl, ⟨rfl, h0⟩ | ⟨g, cp, cur, rfl, hb, hh, r⟩⟩ := id h
  · obtain rfl : l = [] := List.eq_nil_of_length_eq_zero h0
    exact run_convert_bytes_nil w 99 5 Try.underlying99 Try.underlying5 0 0 9 Try.underlying9
  · have := run_convert_bytes_arg (P := Try.prog) w 99 5 Try.underlying99 Try.underlying5 g 0 l.length cp (l.map fun b => (b.toNat : Int)) (by simp) (fun i hi => by
      rw [Nat.zero_add]
      have c := World.ownsRow.cellAt h i (by omega)
      rw [c]
      unfold byteC
      simp [List.getElem?_eq_getElem hi, List.getD]) 9 Try.underlying9
    rw [strOf_bytes] at this
    exact this
theorem drop_get (b : ByteArray) (i : Nat) (h : i < b.size) : b.data.toList.drop i = b[i] :: b.data.toList.drop (i + 1) := by
  rw [List.drop_eq_getElem_cons (by simpa using h)]; rfl
theorem take_snoc (s : ByteArray) (k : Nat) (h : k < s.size) : s.data.toList.take (k + 1) = s.data.toList.take k ++ [s[k]] := by
  rw [List.take_succ_eq_append_getElem (by simpa using h)]; rfl
set_option maxHeartbeats 400000 in
theorem clone_any (b : ByteArray) (w : World) (hb : b.size ≤ 281474976710656) :
    Calls Try.prog 24 #[.string b] w fun e w' => e = .returned (.string b) ∧ Below w.heap.size w w' := by
  go_enter Try.func24, Try.ntmps24
  go_wp2_with fail
  refine (Try.stringslite_Clone b _ hb).mono ?_
  rintro e w' ⟨rfl, h⟩
  go_wp2
  go_ret
  exact ⟨rfl, h⟩
end Go.Proofs.Ytiomngpfolkgpaa
namespace Go.Proofs.Ytiomngpfolkgpaa
open Go.RowKit
theorem u64_neg {n : Int} (h0 : n < 0) (h1 : -18446744073709551616 ≤ n) : IntKind.u64.wrap n = n + 18446744073709551616 := by rw [IntKind.wrap_u64]; omega
set_option maxHeartbeats 400000 in
theorem fold_any (n : Int) (w : World) (h0 : -9223372036854775808 ≤ n) (h1 : n < 9223372036854775808) :
    Calls Try.prog 59 #[.int .i64 n] w fun e w' => e = .returned (.int .u64 (zig n : Nat)) ∧ w' = w := by
  by_cases hn : n < 0
  · go_enter Try.func59, Try.ntmps59
    go_wp2
    all_goals go_ret
    all_goals refine ⟨ret_int ?_, rfl⟩
    all_goals
      have e := zig_neg hn
      rw [u64_neg hn (by omega), IntKind.wrap_u64]
      have x := u64_not (((n + 18446744073709551616) * 2 % 18446744073709551616).toNat) (by omega)
      rw [Int.toNat_of_nonneg (by omega)] at x
      rw [show IntKind.u64.max = 18446744073709551615 from rfl, x]
      omega
  · have hn' : 0 ≤ n := by omega
    go_enter Try.func59, Try.ntmps59
    go_wp2
    go_ret
    exact ⟨ret_int (by rw [zig_pos hn']; omega), rfl⟩
theorem and1 (u : Nat) (h : u < 18446744073709551616) : bits .and .u64 (u : Int) 1 = ((u % 2 : Nat) : Int) := by
  have := u64_and_nat u 1 h (by omega)
  rw [nat_mask1] at this
  exact this
set_option maxHeartbeats 400000 in
theorem unfold_any (u : Nat) (w : World) (h1 : u < 18446744073709551616) :
    Calls Try.prog 57 #[.int .u64 (u : Int)] w fun e w' => e = .returned (.int .i64 (unzig u)) ∧ w' = w := by
  have ha := and1 u h1
  by_cases hu : u % 2 = 1
  · have hb : (bits .and .u64 (u : Int) 1 == 1) = true := by rw [ha, hu]; rfl
    clear ha
    go_enter Try.func57, Try.ntmps57
    go_wp2
    all_goals go_ret
    all_goals refine ⟨ret_int ?_, rfl⟩
    all_goals
      have x := i64_not (u / 2) (by omega)
      unfold unzig
      rw [if_pos hu]
      rw [show ((u : Int) / 2) = ((u / 2 : Nat) : Int) by omega, x]
      omega
  · have hb : (bits .and .u64 (u : Int) 1 == 1) = false := by rw [ha, show u % 2 = 0 by omega]; rfl
    clear ha
    go_enter Try.func57, Try.ntmps57
    go_wp2
    go_ret
    exact ⟨ret_int (by unfold unzig; rw [if_neg hu]; omega), rfl⟩

end Go.Proofs.Ytiomngpfolkgpaa
