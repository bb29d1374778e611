/-
  SameInts returns whether two rows of numbers are the same; nothing that was there has changed.
  SameInts and SameMatch return whether they are the same; nothing that was there has changed.
  Events, plainly: an event's cells, which may be, the box of one.
  Plain facts on numbers, bytes and sums, of no program: the numbers that a signed number stands for, the table's step of the sum, that it is one to one.
  Plain facts on a number's bytes: groups of seven bits, the highest first.
-/
import Derived.Test.YtpfcoaimciojjaaG03
import Derived.Test.YtpfcoaimciojjaaG04
import Derived.WalkKit
import Derived.Lib.BitFns
namespace Go.Proofs.Ytpfcoaimciojjaa
open Go.RowKit

theorem take_ext {α : Type} {xs ys : List α} {k : Nat} (h1 : k < xs.length) (h2 : k < ys.length) (h : xs.take k = ys.take k) (he : xs[k] = ys[k]) : xs.take (k + 1) = ys.take (k + 1) := by
  rw [List.take_succ_eq_append_getElem h1, List.take_succ_eq_append_getElem h2, h, he]
set_option maxHeartbeats 1000000 in
theorem sameInts_any (a1 a2 : Option Addr) (c1 c2 : Nat) (xs ys : List Int) (w : World) (hl1 : xs.length ≤ 9223372036854775807) (_hl2 : ys.length ≤ 9223372036854775807) (h1 : IntsAt w a1 xs) (h2 : IntsAt w a2 ys) :
    Calls Try.prog 37 #[.slice a1 xs.length c1, .slice a2 ys.length c2] w fun e w' => e = .returned (.bool (decide (xs = ys))) ∧ ∃ n, w' = w.drewN n := by
  have H1 := hide h1
  have H2 := hide h2
  clear h1 h2
  by_cases hlen : xs.length = ys.length
  · rw [← hlen]
    generalize hR : decide (xs = ys) = R
    have HR := hide hR
    have HL := hide hlen
    clear hR hlen
    go_enter Try.func37, Try.ntmps37
    go_wp2
    go_loopw [5] (fun i wr => ∃ k n : Nat, k ≤ xs.length ∧ i = .int .i64 (k : Int) ∧ wr = w.drewN n ∧ Hid (xs.take k = ys.take k)) (fun i _ => xs.length - (intOf i).toNat)
    case atStart => exact ⟨0, 0, Nat.zero_le _, rfl, rfl, hide (by simp)⟩
    case round =>
      obtain ⟨k, n, hk, rfl, rfl, HK⟩ := hrel
      by_cases hlt : k < xs.length
      · have hlt2 : k < ys.length := by have := unhide HL; omega
        obtain ⟨b1, o1, rfl, _, q1⟩ := unhide H1 (fun e => by rw [e] at hlt; simp at hlt)
        obtain ⟨b2, o2, rfl, _, q2⟩ := unhide H2 (fun e => by rw [e] at hlt2; simp at hlt2)
        have x1 := q1 k hlt
        have y1 := q2 k hlt2
        have hstep := fun he => take_ext hlt hlt2 (unhide HK) he
        have hdiff : xs[k] ≠ ys[k] → xs ≠ ys := fun hne e => hne (by simp [e])
        have HST := hide hstep
        have HDI := hide hdiff
        have hli : (k : Int) < (xs.length : Int) := by omega
        clear q1 q2 HK hstep hdiff H1 H2
        generalize xs[k] = x at *
        generalize ys[k] = y at *
        by_cases he : x = y
        · have HT := hide (unhide HST he)
          clear HST HDI
          subst he
          go_wp2
          go_quiet (fail)
          go_wp2
          go_roundw
          case rel => exact ⟨k + 1, _, by omega, by go_num, rfl, HT⟩
          case measure => simp [intOf]; omega
        · have hR := unhide HR
          rw [decide_eq_false (unhide HDI he)] at hR
          subst hR
          have g : (x != y) = true := by rw [bne_iff_ne]; exact he
          clear he HR HDI HST
          go_wp2
          go_quiet (fail)
          go_wp2
          go_ret
          exact ⟨rfl, _, World.drewN_drewN _ _ _⟩
      · have hall : xs = ys := by
          have := unhide HK
          have hl := unhide HL
          rw [List.take_of_length_le (by omega), List.take_of_length_le (by omega)] at this
          exact this
        have hR := unhide HR
        rw [decide_eq_true hall] at hR
        subst hR
        clear HR HK hall H1 H2 HL
        go_wp2
        go_ret
        exact ⟨rfl, n, rfl⟩
  · have hne : xs ≠ ys := fun e => hlen (by rw [e])
    rw [decide_eq_false hne]
    have g : ((xs.length : Int) != (ys.length : Int)) = true := by rw [bne_iff_ne]; omega
    clear hlen hne H1 H2
    go_enter Try.func37, Try.ntmps37
    go_wp2
    go_ret
    exact ⟨rfl, 0, rfl⟩
theorem below_drewN' {B : Nat} {a w : World} (h : Below B a w) (n : Nat) : Below B a (w.drewN n) := ⟨h.os, h.tape, h.output, h.size, h.block⟩
theorem CmpS.drewN {w : World} {g1 g2 : Nat} {k1 : ByteArray} {a1 : Option Addr} {n1 c1 : Nat} {k2 : ByteArray} {a2 : Option Addr} {n2 c2 : Nat} {W : World} (h : CmpS w g1 g2 k1 a1 n1 c1 k2 a2 n2 c2 W) (n : Nat) : CmpS w g1 g2 k1 a1 n1 c1 k2 a2 n2 c2 (W.drewN n) := ⟨below_drewN' h.bel n, h.b1, h.b2⟩
theorem ba_ne {a b : ByteArray} (h : a ≠ b) : (a.toList == b.toList) = false := by
  rw [beq_eq_false_iff_ne]
  intro e
  refine h (ByteArray.ext (Array.ext' ?_))
  rw [← ByteArray.toList_eq, ← ByteArray.toList_eq]
  exact e
end Go.Proofs.Ytpfcoaimciojjaa
namespace Go.Proofs.Ytpfcoaimciojjaa
open Go.RowKit

set_option maxHeartbeats 2000000 in
theorem sameMatch_any (k1 : ByteArray) (a1 : Option Addr) (c1 : Nat) (s1 : List (List Int)) (k2 : ByteArray) (a2 : Option Addr) (c2 : Nat) (s2 : List (List Int)) (w : World) (ok1 : MtOk k1 s1) (ok2 : MtOk k2 s2) (h1 : StagesAt w a1 s1) (h2 : StagesAt w a2 s2) :
    Calls Try.prog 20 #[.agg #[.string k1, .slice a1 s1.length c1], .agg #[.string k2, .slice a2 s2.length c2]] w fun e w' => e = .returned (.bool (decide (k1 = k2 ∧ s1 = s2))) ∧ Below w.heap.size w w' := by
  have s0 : CmpS w w.heap.size (w.heap.size + 1) k1 a1 s1.length c1 k2 a2 s2.length c2 ((w.alloc (.cells #[.string k1, .slice a1 s1.length c1] 35)).alloc (.cells #[.string k2, .slice a2 s2.length c2] 35)) := by
    refine ⟨((Below.refl _ _).alloc (Nat.le_refl _) _).alloc (by simp) _, MBox.alloc (heap_alloc_new w _) _, ?_⟩
    have := heap_alloc_new (w.alloc (.cells #[.string k1, .slice a1 s1.length c1] 35)) (.cells #[.string k2, .slice a2 s2.length c2] 35)
    unfold MBox
    simpa using this
  by_cases hk : k1 = k2
  · by_cases hlen : s1.length = s2.length
    · subst hk
      generalize hR : decide (k1 = k1 ∧ s1 = s2) = R
      have HR := hide hR
      have H1 := hide h1
      have H2 := hide h2
      have P1 := hide ok1
      have P2 := hide ok2
      have h8 := ok1.2.1
      have HL := hide hlen
      rw [← hlen] at s0 ⊢
      clear hR h1 h2 ok1 ok2 hlen
      go_enter Try.func20, Try.ntmps20
      go_wp2_with fail
      generalize ((w.alloc (.cells #[.string k1, .slice a1 s1.length c1] 35)).alloc (.cells #[.string k1, .slice a2 s1.length c2] 35)) = W0 at *
      go_loopw [5] (fun i wr => ∃ k : Nat, k ≤ s1.length ∧ i = .int .i64 (k : Int) ∧ CmpS w w.heap.size (w.heap.size + 1) k1 a1 s1.length c1 k1 a2 s1.length c2 wr ∧ Hid (s1.take k = s2.take k)) (fun i _ => s1.length - (intOf i).toNat)
      case atStart => exact ⟨0, Nat.zero_le _, rfl, s0, hide (by simp)⟩
      case round =>
        clear s0
        obtain ⟨k, hk, rfl, s0, HK⟩ := hrel
        have f0 := s0.full.2
        by_cases hlt : k < s1.length
        · have hlt2 : k < s2.length := by have := unhide HL; omega
          obtain ⟨b1, o1, rfl, _, q1⟩ := (unhide H1).below s0.bel (Nat.le_refl _) (fun e => by rw [e] at hlt; simp at hlt)
          obtain ⟨b2, o2, rfl, _, q2⟩ := (unhide H2).below s0.bel (Nat.le_refl _) (fun e => by rw [e] at hlt2; simp at hlt2)
          obtain ⟨p1, m1, x1, i1⟩ := q1 k hlt
          obtain ⟨p2, m2, y1, i2⟩ := q2 k hlt2
          have l1 := (unhide P1).2.2 s1[k] (List.getElem_mem hlt)
          have l2 := (unhide P2).2.2 s2[k] (List.getElem_mem hlt2)
          have hstep := fun he => take_ext hlt hlt2 (unhide HK) he
          have hdiff : s1[k] ≠ s2[k] → s1 ≠ s2 := fun hne e => hne (by simp [e])
          have HST := hide hstep
          have HDI := hide hdiff
          have hli : (k : Int) < (s1.length : Int) := by omega
          clear q1 q2 HK hstep hdiff H1 H2 P1 P2
          generalize s1[k] = x at *
          generalize s2[k] = y at *
          have hc := fun q => sameInts_any p1 p2 m1 m2 x y (wr.drewN q) l1 l2 i1 i2
          by_cases he : x = y
          · have HT := hide (unhide HST he)
            clear HST HDI
            subst he
            simp only [decide_true] at hc
            have HC := hide hc
            clear hc i1 i2
            generalize x.length = nx at *
            go_wp2
            go_quiet (first | (go_at_call 37; exact Calls.quiet_of (unhide HC _)))
            go_wp2
            go_roundw
            case rel => exact ⟨k + 1, by omega, by go_num, s0.drewN _, HT⟩
            case measure => simp [intOf]; omega
          · have hR := unhide HR
            rw [decide_eq_false (fun h => unhide HDI he h.2)] at hR
            subst hR
            simp only [decide_eq_false he] at hc
            have HC := hide hc
            clear hc i1 i2 HDI HST he HR
            generalize x.length = nx at *
            generalize y.length = ny at *
            go_wp2
            go_quiet (first | (go_at_call 37; exact Calls.quiet_of (unhide HC _)))
            go_wp2
            go_ret
            exact ⟨rfl, below_drewN' s0.bel _⟩
        · have hall : s1 = s2 := by
            have := unhide HK
            have hl := unhide HL
            rw [List.take_of_length_le (by omega), List.take_of_length_le (by omega)] at this
            exact this
          have hR := unhide HR
          rw [decide_eq_true ⟨trivial, hall⟩] at hR
          subst hR
          clear HR HK hall H1 H2 HL P1 P2
          go_wp2
          go_ret
          exact ⟨rfl, s0.bel⟩
    · have hne : ¬ (k1 = k2 ∧ s1 = s2) := fun h => hlen (by rw [h.2])
      rw [decide_eq_false hne]
      have g : ((s1.length : Int) != (s2.length : Int)) = true := by rw [bne_iff_ne]; omega
      subst hk
      clear hlen hne h1 h2 ok1 ok2
      go_enter Try.func20, Try.ntmps20
      go_wp2
      go_ret
      exact ⟨rfl, s0.bel⟩
  · have hne : ¬ (k1 = k2 ∧ s1 = s2) := fun h => hk h.1
    rw [decide_eq_false hne]
    have g := ba_ne hk
    clear hk hne h1 h2 ok1 ok2
    go_enter Try.func20, Try.ntmps20
    go_wp2
    go_ret
    exact ⟨rfl, s0.bel⟩
end Go.Proofs.Ytpfcoaimciojjaa
namespace Go.Proofs.Ytpfcoaimciojjaa
open Go.RowKit

/-- An event. -/
structure Ev where
  k : ByteArray
  t : ByteArray
  n0 : Int
  n1 : Int
  n2 : Int
  n3 : Int
  x : ByteArray
def Ev.c (e : Ev) : Array Value := #[.string e.k, .string e.t, .int .i64 e.n0, .int .i64 e.n1, .int .i64 e.n2, .int .i64 e.n3, .string e.x]
def Ev.may (e : Ev) : Bool := mayE e.k e.t e.x
def Ev.chk (e : Ev) : Int := chkE e.k e.t e.x
def inI (n : Int) : Prop := -9223372036854775808 ≤ n ∧ n < 9223372036854775808
/-- An event that a Go program can hold. -/
def Ev.ok (e : Ev) : Prop := e.k.size ≤ 9223372036854775807 ∧ e.t.size ≤ 9223372036854775807 ∧ e.x.size ≤ 9223372036854775807 ∧ inI e.n0 ∧ inI e.n1 ∧ inI e.n2 ∧ inI e.n3
theorem mayE_sizes {k t x : ByteArray} (h : mayE k t x = true) : k.size ≤ 32 ∧ t.size ≤ 32 ∧ x.size ≤ 256 := by
  unfold mayE nameB at h
  simp only [Bool.and_eq_true, decide_eq_true_eq] at h
  omega
/-- The box of an event lies there. -/
def EBox (g : Nat) (e : Ev) (w : World) : Prop := w.heap[g]? = some (.cells e.c 24 (0, 0))
theorem EBox.cells {g : Nat} {e : Ev} {w : World} (h : EBox g e w) : w.cell? ⟨g, 0, none⟩ = some (.string e.k) ∧ w.cell? ⟨g, 1, none⟩ = some (.string e.t) ∧ w.cell? ⟨g, 2, none⟩ = some (.int .i64 e.n0) ∧ w.cell? ⟨g, 3, none⟩ = some (.int .i64 e.n1) ∧ w.cell? ⟨g, 4, none⟩ = some (.int .i64 e.n2) ∧ w.cell? ⟨g, 5, none⟩ = some (.int .i64 e.n3) ∧ w.cell? ⟨g, 6, none⟩ = some (.string e.x) := by
  unfold EBox Ev.c at h
  simp [World.cell?, h]
theorem EBox.lt {g : Nat} {e : Ev} {w : World} (h : EBox g e w) : g < w.heap.size := by
  unfold EBox at h
  rcases Nat.lt_or_ge g w.heap.size with h1 | h1
  · exact h1
  · rw [Array.getElem?_eq_none h1] at h; cases h
theorem EBox.below {g B : Nat} {e : Ev} {w w' : World} (h : EBox g e w) (hb : Below B w w') (hB : g < B) : EBox g e w' := by unfold EBox; rw [hb.block g hB]; exact h
theorem EBox.alloc {g : Nat} {e : Ev} {w : World} (h : EBox g e w) (o : Obj) : EBox g e (w.alloc o) := (Below.heap_alloc _ _ _ h.lt).trans h
end Go.Proofs.Ytpfcoaimciojjaa
namespace Go.Proofs.Ytpfcoaimciojjaa

/-- A signed number as one that is not below 0. -/
def zig (n : Int) : Nat := if n < 0 then (-2 * n - 1).toNat else (2 * n).toNat
/-- And back. -/
def unzig (u : Nat) : Int := if u % 2 = 1 then -((u / 2 : Nat) : Int) - 1 else ((u / 2 : Nat) : Int)
theorem zig_neg {n : Int} (h : n < 0) : ((zig n : Nat) : Int) = -2 * n - 1 := by unfold zig; rw [if_pos h]; omega
theorem zig_pos {n : Int} (h : 0 ≤ n) : ((zig n : Nat) : Int) = 2 * n := by unfold zig; rw [if_neg (by omega)]; omega
theorem zig_lt {n : Int} (h0 : -9223372036854775808 ≤ n) (h1 : n < 9223372036854775808) : zig n < 18446744073709551616 := by
  unfold zig; split <;> omega
theorem unzig_zig (n : Int) : unzig (zig n) = n := by
  by_cases h : n < 0
  · have := zig_neg h; unfold unzig; rw [if_pos (by omega)]; omega
  · have := zig_pos (by omega : 0 ≤ n); unfold unzig; rw [if_neg (by omega)]; omega
theorem zig_unzig (u : Nat) : zig (unzig u) = u := by
  unfold unzig; split
  · unfold zig; rw [if_pos (by omega)]; omega
  · unfold zig; rw [if_neg (by omega)]; omega
theorem unzig_lo {u : Nat} (h : u < 18446744073709551616) : -9223372036854775808 ≤ unzig u ∧ unzig u < 9223372036854775808 := by
  unfold unzig; split <;> omega

theorem xor_cancel_r {a b c : Nat} (h : a ^^^ c = b ^^^ c) : a = b := by
  have e := congrArg (· ^^^ c) h
  simpa [Nat.xor_assoc] using e
theorem xor_cancel_l {a b c : Nat} (h : c ^^^ a = c ^^^ b) : a = b := by
  rw [Nat.xor_comm c a, Nat.xor_comm c b] at h; exact xor_cancel_r h
theorem xor_ones (w a : Nat) (h : a < 2 ^ w) : (2 ^ w - 1) ^^^ a = 2 ^ w - 1 - a := by
  apply Nat.eq_of_testBit_eq
  intro i
  rw [show 2 ^ w - 1 - a = 2 ^ w - (a + 1) by omega, Nat.testBit_two_pow_sub_succ h, Nat.testBit_xor, Nat.testBit_two_pow_sub_one]
  by_cases hi : i < w
  · simp [hi]
  · have : a.testBit i = false := Nat.testBit_lt_two_pow (Nat.lt_of_lt_of_le h (Nat.pow_le_pow_right (by omega) (by omega)))
    simp [hi, this]
theorem u64_not (a : Nat) (h : a < 18446744073709551616) : bits .xor .u64 (18446744073709551615 : Int) (a : Int) = ((18446744073709551615 - a : Nat) : Int) := by
  have e := u64_xor_nat 18446744073709551615 a (by omega) h
  have x := xor_ones 64 a h
  rw [show (18446744073709551615 : Nat) ^^^ a = 18446744073709551615 - a from x] at e
  exact e
theorem u32_not (a : Nat) (h : a < 4294967296) : bits .xor .u32 (4294967295 : Int) (a : Int) = ((4294967295 - a : Nat) : Int) := by
  have e := u32_xor_nat 4294967295 a (by omega) h
  have x := xor_ones 32 a h
  rw [show (4294967295 : Nat) ^^^ a = 4294967295 - a from x] at e
  exact e

-- The sum.
def tabL : List Nat := [0, 274646895, 549293790, 820201905, 1098587580, 1361435347, 1640403810, 1905808397, 2197175160, 2460548119, 2722870694, 2987750089, 3280807620, 3553878443, 3811616794, 4084100981]
def tabF (i : Nat) : Nat := tabL.getD i 0
def nib (s : Nat) : Nat := (s / 16) ^^^ tabF (s % 16)
def stepB (s b : Nat) : Nat := nib (nib (s ^^^ b))
def sumL (s : Nat) (l : List UInt8) : Nat := l.foldl (fun s b => stepB s b.toNat) s

theorem tabF_lt (i : Nat) (h : i < 16) : tabF i < 4294967296 := by
  have : ∀ i : Fin 16, tabF i.val < 4294967296 := by decide +kernel
  exact this ⟨i, h⟩
theorem tabF_top (i : Nat) (h : i < 16) : tabF i / 268435456 = i := by
  have : ∀ i : Fin 16, tabF i.val / 268435456 = i.val := by decide +kernel
  exact this ⟨i, h⟩
theorem nib_lt {s : Nat} (h : s < 4294967296) : nib s < 4294967296 := by
  unfold nib
  exact Nat.xor_lt_two_pow (n := 32) (by omega) (tabF_lt _ (by omega))
theorem stepB_lt {s b : Nat} (h : s < 4294967296) (hb : b < 256) : stepB s b < 4294967296 :=
  nib_lt (nib_lt (Nat.xor_lt_two_pow (n := 32) h (by omega)))
theorem sumL_lt {s : Nat} (l : List UInt8) (h : s < 4294967296) : sumL s l < 4294967296 := by
  induction l generalizing s with
  | nil => exact h
  | cons b t ih => exact ih (stepB_lt h b.toNat_lt)
theorem sumL_append (s : Nat) (a b : List UInt8) : sumL s (a ++ b) = sumL (sumL s a) b := by unfold sumL; rw [List.foldl_append]
theorem sumL_snoc (s : Nat) (l : List UInt8) (b : UInt8) : sumL s (l ++ [b]) = stepB (sumL s l) b.toNat := by rw [sumL_append]; rfl
theorem sumL_cons (s : Nat) (b : UInt8) (l : List UInt8) : sumL s (b :: l) = sumL (stepB s b.toNat) l := rfl

theorem nib_top {s : Nat} (h : s < 4294967296) : nib s / 268435456 = s % 16 := by
  have e : nib s / 2 ^ 28 = (s / 16) / 2 ^ 28 ^^^ tabF (s % 16) / 2 ^ 28 := by unfold nib; exact Nat.xor_div_two_pow
  have t := tabF_top (s % 16) (by omega)
  rw [show (268435456 : Nat) = 2 ^ 28 from rfl] at t ⊢
  rw [e, t, Nat.div_eq_of_lt (by omega), Nat.zero_xor]
theorem nib_inj {s t : Nat} (hs : s < 4294967296) (ht : t < 4294967296) (h : nib s = nib t) : s = t := by
  have a := nib_top hs; have b := nib_top ht
  rw [h] at a
  have c : s % 16 = t % 16 := by omega
  unfold nib at h
  rw [c] at h
  have d := xor_cancel_r h
  omega
theorem stepB_inj {s t b c : Nat} (hs : s < 4294967296) (ht : t < 4294967296) (hb : b < 256) (hc : c < 256) (h : stepB s b = stepB t c) : s ^^^ b = t ^^^ c := by
  have x1 := Nat.xor_lt_two_pow (n := 32) hs (by omega : b < 2 ^ 32)
  have x2 := Nat.xor_lt_two_pow (n := 32) ht (by omega : c < 2 ^ 32)
  exact nib_inj x1 x2 (nib_inj (nib_lt x1) (nib_lt x2) h)
/-- Sums that are unlike stay unlike. -/
theorem sumL_inj {s t : Nat} (l : List UInt8) (hs : s < 4294967296) (ht : t < 4294967296) (h : sumL s l = sumL t l) : s = t := by
  induction l generalizing s t with
  | nil => exact h
  | cons b r ih =>
    have e := ih (stepB_lt hs b.toNat_lt) (stepB_lt ht b.toNat_lt) h
    exact xor_cancel_r (stepB_inj hs ht b.toNat_lt b.toNat_lt e)
/-- One byte that is another one makes another sum. -/
theorem sumL_byte {s : Nat} (a r : List UInt8) {b c : UInt8} (hs : s < 4294967296) (hbc : b ≠ c) : sumL s (a ++ b :: r) ≠ sumL s (a ++ c :: r) := by
  intro h
  rw [sumL_append, sumL_append, sumL_cons, sumL_cons] at h
  have la := sumL_lt a hs
  have e := sumL_inj r (stepB_lt la b.toNat_lt) (stepB_lt la c.toNat_lt) h
  have x := stepB_inj la la b.toNat_lt c.toNat_lt e
  exact hbc (UInt8.toNat_inj.1 (xor_cancel_l x))
theorem sumL_noughts (n : Nat) : sumL 4294967295 (List.replicate n 0) ≠ sumL 4294967295 (List.replicate (n + 1) 0) := by
  intro h
  rw [List.replicate_succ, sumL_cons] at h
  have := sumL_inj _ (by omega) (stepB_lt (by omega) (by decide)) h
  exact absurd this (by decide +kernel)
end Go.Proofs.Ytpfcoaimciojjaa
namespace Go.Proofs.Ytpfcoaimciojjaa

/-- The bytes ahead of the last one. -/
def hiF : Nat → Nat → List UInt8
  | 0, _ => []
  | f + 1, u => if u = 0 then [] else hiF f (u / 128) ++ [UInt8.ofNat (u % 128 + 128)]
theorem hiF_more (f u : Nat) (h : u ≤ f) : hiF f u = hiF u u := by
  induction f using Nat.strongRecOn generalizing u with
  | ind f ih =>
    cases f with
    | zero => obtain rfl : u = 0 := by omega
              rfl
    | succ f =>
      cases u with
      | zero => rfl
      | succ u =>
        rw [hiF, hiF, if_neg (by omega), if_neg (by omega), ih f (by omega) ((u + 1) / 128) (by omega)]
        by_cases hfu : u = f
        · rw [hfu, ih f (by omega) ((f + 1) / 128) (by omega)]
        · rw [ih u (by omega) ((u + 1) / 128) (by omega)]
def hiB (u : Nat) : List UInt8 := hiF u u
/-- A number's bytes. -/
def numB (u : Nat) : List UInt8 := hiB (u / 128) ++ [UInt8.ofNat (u % 128)]
theorem hiB_zero : hiB 0 = [] := rfl
theorem hiB_step {u : Nat} (h : u ≠ 0) : hiB u = hiB (u / 128) ++ [UInt8.ofNat (u % 128 + 128)] := by
  obtain ⟨k, rfl⟩ : ∃ k, u = k + 1 := ⟨u - 1, by omega⟩
  unfold hiB
  rw [hiF, if_neg (by omega), hiF_more k ((k + 1) / 128) (by omega)]

theorem bitLen_spec (x : Nat) (hx : x < 2 ^ 64) : x < 2 ^ Lib.bitLen x ∧ (x ≠ 0 → 2 ^ (Lib.bitLen x - 1) ≤ x) := by
  induction x using Nat.strongRecOn with
  | ind x ih =>
    by_cases h0 : x = 0
    · subst h0; refine ⟨by decide, fun h => absurd rfl h⟩
    · obtain ⟨a, b⟩ := ih (x / 2) (by omega) (by omega)
      rw [Lib.bitLen_half x h0 hx]
      by_cases h1 : x / 2 = 0
      · rw [h1, show Lib.bitLen 0 = 0 by decide]; refine ⟨by omega, fun _ => by omega⟩
      · have b' := b h1
        generalize Lib.bitLen (x / 2) = k at *
        rw [show 1 + k = k + 1 by omega, Nat.pow_succ]
        refine ⟨by omega, fun _ => ?_⟩
        rw [Nat.add_sub_cancel]
        rcases Nat.eq_zero_or_pos k with hk | hk
        · subst hk; simp at a; omega
        · obtain ⟨j, rfl⟩ : ∃ j, k = j + 1 := ⟨k - 1, by omega⟩
          rw [Nat.add_sub_cancel] at b'
          rw [Nat.pow_succ]; omega
/-- How many groups of seven bits. -/
def grps (u : Nat) : Nat := max 1 ((Lib.bitLen u + 6) / 7)
theorem bitLen_le64 {u : Nat} (h : u < 2 ^ 64) : Lib.bitLen u ≤ 64 := Lib.bitLen_le u 64 (by omega) h
theorem grps_le {u : Nat} (h : u < 2 ^ 64) : 1 ≤ grps u ∧ grps u ≤ 10 := by have := bitLen_le64 h; unfold grps; omega
theorem pow128 (g : Nat) : 128 ^ g = 2 ^ (7 * g) := by rw [Nat.pow_mul]
theorem grps_top {u : Nat} (h : u < 2 ^ 64) : u / 128 ^ grps u = 0 := by
  refine Nat.div_eq_of_lt ?_
  rw [pow128]
  refine Nat.lt_of_lt_of_le (bitLen_spec u h).1 (Nat.pow_le_pow_right (by omega) ?_)
  unfold grps; omega
theorem grps_in {u g : Nat} (h : u < 2 ^ 64) (h1 : 1 ≤ g) (h2 : g < grps u) : u / 128 ^ g ≠ 0 := by
  have hu : u ≠ 0 := by
    intro e; subst e; unfold grps at h2; rw [show Lib.bitLen 0 = 0 by decide] at h2; omega
  have b := (bitLen_spec u h).2 hu
  have : 128 ^ g ≤ u := by
    rw [pow128]
    refine Nat.le_trans (Nat.pow_le_pow_right (by omega) ?_) b
    unfold grps at h2; omega
  have := Nat.div_pos this (Nat.pow_pos (by omega))
  omega
theorem hiB_round {u g : Nat} (h : u < 2 ^ 64) (h1 : 1 ≤ g) (h2 : g < grps u) : hiB (u / 128 ^ g) = hiB (u / 128 ^ (g + 1)) ++ [UInt8.ofNat (u / 128 ^ g % 128 + 128)] := by
  rw [hiB_step (grps_in h h1 h2), Nat.div_div_eq_div_mul, Nat.pow_succ]
theorem hiB_length {u : Nat} (k : Nat) (h : u < 128 ^ k) : (hiB u).length ≤ k := by
  induction k generalizing u with
  | zero => obtain rfl : u = 0 := by simpa using h
            rw [hiB_zero]; exact Nat.zero_le _
  | succ k ih =>
    by_cases h0 : u = 0
    · subst h0; rw [hiB_zero]; exact Nat.zero_le _
    · rw [hiB_step h0, List.length_append]
      have := ih (u := u / 128) (by rw [Nat.pow_succ] at h; exact Nat.div_lt_of_lt_mul (by rw [Nat.mul_comm]; exact h))
      simp only [List.length_cons, List.length_nil]; omega
theorem numB_length {u : Nat} (h : u < 2 ^ 64) : 1 ≤ (numB u).length ∧ (numB u).length ≤ 10 := by
  unfold numB
  have := hiB_length (u := u / 128) 9 (Nat.div_lt_of_lt_mul (Nat.lt_of_lt_of_le h (by decide)))
  rw [List.length_append]; simp only [List.length_cons, List.length_nil]; omega
/-- A group's byte in the walk's own form. -/
theorem byte_hi (q : Nat) : bits .or .u8 (bits .and .u8 ((q % 256 : Nat) : Int) 127) 128 = ((q % 128 + 128 : Nat) : Int) := by
  have a := u8_and_nat (q % 256) 127 (by omega) (by omega)
  rw [nat_mask7] at a
  rw [show ((127 : Nat) : Int) = 127 from rfl] at a
  rw [a]
  have o := u8_or_nat 128 (q % 256 % 128) (by omega) (by omega)
  have c := u8_or_nat (q % 256 % 128) 128 (by omega) (by omega)
  rw [Nat.or_comm, nat_join 7 128 (q % 256 % 128) (by decide) (by omega)] at c
  rw [show ((128 : Nat) : Int) = 128 from rfl] at c
  rw [c]; congr 1; omega
theorem byte_lo (q : Nat) : bits .and .u8 ((q % 256 : Nat) : Int) 127 = ((q % 128 : Nat) : Int) := by
  have a := u8_and_nat (q % 256) 127 (by omega) (by omega)
  rw [nat_mask7] at a
  rw [show ((127 : Nat) : Int) = 127 from rfl] at a
  rw [a]; congr 1; omega
end Go.Proofs.Ytpfcoaimciojjaa
