/-
  A number from 0 to n - 1: the plain fact.
  A store that is begun; a purse: New, Add, Spend, Has; a number from 0 to n - 1.
  Credit: the chapter's example.
  A slice of numbers: they lie where it says.
  CreditBounds, plainly: the texts on their way, and what there is between two moves.
  A slice of numbers that comes in as an argument: its numbers lie where it says.
-/
import Derived.Test.YtcogcfnbgicjcaaB01
import Derived.Test.YtcogcfnbgicjcaaB03
import Derived.Test.YtcogcfnbgicjcaaChecked
import Derived.WalkLawsBesides
import Derived.ProofKit
import Derived.OpenShut
import Derived.Deep.Slices
namespace Go.Proofs.Ytcogcfnbgicjcaa

theorem among_eq (x n : Int) (hn : 0 < n) : (x.tmod n + n).tmod n = x % n := by
  rcases Int.lt_or_le x 0 with h | h
  · have h1 := Int.tmod_eq_emod (a := x) (b := n)
    have h2 := Int.emod_nonneg x (by omega : n ≠ 0)
    have h3 := Int.emod_lt_of_pos x hn
    by_cases hd : n ∣ x
    · have e : x % n = 0 := Int.emod_eq_zero_of_dvd hd
      rw [h1, if_pos (Or.inr hd), e]
      simp
    · rw [h1, if_neg (by omega), show (n.natAbs : Int) = n by omega, show x % n - n + n = x % n by omega, Int.tmod_eq_emod_of_nonneg h2, Int.emod_emod_of_dvd x (Int.dvd_refl n)]
  · rw [Int.tmod_eq_emod_of_nonneg h, Int.tmod_eq_emod_of_nonneg (by have := Int.emod_nonneg x (by omega : n ≠ 0); omega)]
    simp
end Go.Proofs.Ytcogcfnbgicjcaa
namespace Go.Proofs.Ytcogcfnbgicjcaa
open Go.RowKit Cr

theorem newStore_not (c : Int) (w : World) (h : ¬ (1 ≤ c ∧ c ≤ 256)) :
    Calls Try.prog 6 #[.int .i64 c] w fun e w' => e = .returned (.tuple #[.pointer none, .int .i64 1]) ∧ w' = w := by
  by_cases h1 : c < 1
  · clear h
    go_enter Try.func6, Try.ntmps6
    go_wp2
    go_ret2
    exact ⟨rfl, rfl⟩
  · have h2 : c > 256 := by omega
    clear h
    go_enter Try.func6, Try.ntmps6
    go_wp2
    go_ret2
    exact ⟨rfl, rfl⟩
/-- The cells of a ring, and of a store, that nothing was put into. -/
def rgZ : Array Value := (List.replicate 256 (Value.string ⟨#[]⟩) ++ [Value.int .i64 0, Value.int .i64 0, Value.int .i64 0]).toArray
def srZ : Array Value := (List.replicate 256 (Value.string ⟨#[]⟩) ++ [Value.int .i64 0, Value.int .i64 0, Value.int .i64 0, Value.int .i64 0]).toArray
theorem zero_ring (W : World) : (zeroValue 58).run Try.prog W = .ok (.agg rgZ) W := by kernel_rfl
theorem zero_store (W : World) : (zeroValue 60).run Try.prog W = .ok (.agg srZ) W := by kernel_rfl
theorem rgZ_size : rgZ.size = 259 := by kernel_rfl
theorem srZ_size : srZ.size = 260 := by kernel_rfl
def srC (v : Value) : Array Value := (List.replicate 256 (Value.string ⟨#[]⟩) ++ [v, Value.int .i64 0, Value.int .i64 0, Value.int .i64 0]).toArray
theorem build_store (v : Value) : Array.foldl (fun cs (x : Value × Nat) => cs.setIfInBounds x.snd x.fst) srZ (rgZ.setIfInBounds 256 v).zipIdx 0 259 = srC v := by kernel_rfl
theorem srC_v (v : Value) : (srC v)[256]? = some v := by kernel_rfl
theorem srC_1 (v : Value) : (srC v)[257]? = some (Value.int .i64 0) := by kernel_rfl
theorem srC_2 (v : Value) : (srC v)[258]? = some (Value.int .i64 0) := by kernel_rfl
theorem srC_3 (v : Value) : (srC v)[259]? = some (Value.int .i64 0) := by kernel_rfl
theorem srC_size (v : Value) : (srC v).size = 260 := by kernel_rfl
set_option maxRecDepth 100000 in
set_option maxHeartbeats 4000000 in
theorem newStore_ok (c : Nat) (w : World) (h0 : 1 ≤ c) (h1 : c ≤ 256) :
    Calls Try.prog 6 #[.int .i64 (c : Int)] w fun e w' => e = .returned (.tuple #[.pointer (some ⟨w.heap.size, 0, none⟩), .int .i64 0]) ∧ CrAt w' w.heap.size ⟨c, 0, []⟩ ∧ Kp [] w w' := by
  have k1 : ¬ (c : Int) < 1 := by omega
  have k2 : ¬ (c : Int) > 256 := by omega
  have z1 := zero_ring
  have z2 := zero_store
  have s1 := rgZ_size
  have s2 := srZ_size
  have hb := hide (build_store (.int .i64 (c : Int)))
  generalize rgZ = Z1 at *
  generalize srZ = Z2 at *
  go_enter Try.func6, Try.ntmps6
  go_wp2
  rw [unhide hb]
  go_ret2
  exact ⟨rfl, ⟨_, 0, CBox.new w _ _, srC_size _, srC_v _, srC_1 _, srC_2 _, srC_3 _, h0, fun i hi => absurd hi (Nat.not_lt_zero i), ⟨h0, h1, by show 0 + 0 ≤ c; omega⟩⟩, Kp.alloc _ _⟩
/-- A purse lies there. -/
def PsAt (w : World) (b n : Nat) : Prop := CBox b #[.int .i64 (n : Int)] 62 w
theorem newPurse_any (w : World) :
    Calls Try.prog 8 #[] w fun e w' => e = .returned (.pointer (some ⟨w.heap.size, 0, none⟩)) ∧ PsAt w' w.heap.size 0 ∧ Kp [] w w' := by
  go_enter Try.func8, Try.ntmps8
  go_wp2
  go_ret
  exact ⟨rfl, CBox.new w _ _, Kp.alloc _ _⟩
theorem pHas_any (b n : Nat) (w : World) (h : PsAt w b n) :
    Calls Try.prog 12 #[.pointer (some ⟨b, 0, none⟩)] w fun e w' => e = .returned (.int .i64 (n : Int)) ∧ w' = w := by
  have c0 : w.cell? ⟨b, 0, none⟩ = some (.int .i64 (n : Int)) := h.cell (i := 0) rfl
  clear h
  go_enter Try.func12, Try.ntmps12
  go_wp2
  go_ret
  exact ⟨rfl, rfl⟩
def spE (n : Nat) : Int := if n = 0 then 200 else 0
def adE (n : Nat) (x : Int) : Int := if x < 0 then 1 else if x > 256 - (n : Int) then 2 else 0
def adN (n : Nat) (x : Int) : Nat := if x < 0 then n else if x > 256 - (n : Int) then n else n + x.toNat
theorem adN_le {n : Nat} (h : n ≤ 256) (x : Int) : adN n x ≤ 256 := by
  unfold adN
  split
  · exact h
  · split
    · exact h
    · omega
set_option maxHeartbeats 1000000 in
theorem pSpend_any (b n : Nat) (w : World) (h : PsAt w b n) (hn : n ≤ 256) :
    Calls Try.prog 15 #[.pointer (some ⟨b, 0, none⟩)] w fun e w' => e = .returned (.int .i64 (spE n)) ∧ PsAt w' b (n - 1) ∧ Kp [b] w w' := by
  have c0 : w.cell? ⟨b, 0, none⟩ = some (.int .i64 (n : Int)) := h.cell (i := 0) rfl
  have z0 := CBox.froz h 0
  unfold spE
  by_cases h0 : n = 0
  · subst h0
    have H := hide h
    clear h
    rw [if_pos rfl]
    go_enter Try.func15, Try.ntmps15
    go_wp2
    go_ret
    exact ⟨rfl, unhide H, Kp.refl _ _⟩
  · rw [if_neg h0]
    have hi : ¬ (n : Int) = 0 := by omega
    have H := hide (show PsAt (w.setCell ⟨b, 0, none⟩ (.int .i64 ((n : Int) - 1))) b (n - 1) from by
      have := CBox.set h 0 (.int .i64 ((n : Int) - 1))
      unfold PsAt
      rw [show (((n - 1 : Nat)) : Int) = (n : Int) - 1 by omega]
      exact this)
    have K := hide (Kp.set w b 0 (.int .i64 ((n : Int) - 1)))
    clear h
    go_enter Try.func15, Try.ntmps15
    go_wp2
    go_ret
    exact ⟨rfl, unhide H, unhide K⟩
set_option maxHeartbeats 1000000 in
theorem pAdd_any (b n : Nat) (x : Int) (w : World) (h : PsAt w b n) (hn : n ≤ 256) :
    Calls Try.prog 19 #[.pointer (some ⟨b, 0, none⟩), .int .i64 x] w fun e w' => e = .returned (.int .i64 (adE n x)) ∧ PsAt w' b (adN n x) ∧ Kp [b] w w' := by
  have c0 : w.cell? ⟨b, 0, none⟩ = some (.int .i64 (n : Int)) := h.cell (i := 0) rfl
  have z0 := CBox.froz h 0
  unfold adE adN
  by_cases h0 : x < 0
  · rw [if_pos h0, if_pos h0]
    have H := hide h
    clear h
    go_enter Try.func19, Try.ntmps19
    go_wp2
    go_ret
    exact ⟨rfl, unhide H, Kp.refl _ _⟩
  · rw [if_neg h0, if_neg h0]
    by_cases h1 : x > 256 - (n : Int)
    · rw [if_pos h1, if_pos h1]
      have H := hide h
      clear h
      go_enter Try.func19, Try.ntmps19
      go_wp2
      go_ret
      exact ⟨rfl, unhide H, Kp.refl _ _⟩
    · rw [if_neg h1, if_neg h1]
      have H := hide (show PsAt (w.setCell ⟨b, 0, none⟩ (.int .i64 ((n : Int) + x))) b (n + x.toNat) from by
        have := CBox.set h 0 (.int .i64 ((n : Int) + x))
        unfold PsAt
        rw [show (((n + x.toNat : Nat)) : Int) = (n : Int) + x by omega]
        exact this)
      have K := hide (Kp.set w b 0 (.int .i64 ((n : Int) + x)))
      clear h
      go_enter Try.func19, Try.ntmps19
      go_wp2
      go_ret
      exact ⟨rfl, unhide H, unhide K⟩
set_option maxHeartbeats 400000 in
theorem cAmong_any (x n : Int) (w : World) (hn : 0 < n) (hn1 : n ≤ 1099511627776) :
    Calls Try.prog 14 #[.int .i64 x, .int .i64 n] w fun e w' => e = .returned (.int .i64 (x % n)) ∧ w' = w := by
  have hne : (n == 0) = false := beq_eq_false_iff_ne.2 (by omega)
  have e1 := among_eq x n hn
  have b1 : -n < x.tmod n := Int.lt_tmod_of_pos x hn
  have b2 : x.tmod n < n := Int.tmod_lt_of_pos x hn
  go_enter Try.func14, Try.ntmps14
  go_wp2
  go_ret
  exact ⟨rfl, rfl⟩
end Go.Proofs.Ytcogcfnbgicjcaa
namespace Go.Proofs.Ytcogcfnbgicjcaa
open Go.RowKit Cr

/-- What stays while something of the call's own goes on. -/
theorem kp_own {w W W' : World} {b : Nat} (h : Kp [] w W) (k : Kp [b] W W') (hb : w.heap.size ≤ b) : Kp [] w W' := h.trans k (fun x hx => Or.inr (by rw [List.mem_singleton] at hx; omega))
set_option maxHeartbeats 4000000 in
set_option maxRecDepth 100000 in
theorem cWorks_any (w : World) : Calls Try.prog 13 #[] w fun e w' => e = .returned (.bool true) ∧ Kp [] w w' := by
  have N := hide (newStore_ok 2 w (by decide) (by decide))
  have G1 : Hid (∀ W b, CrAt W b ⟨2, 0, []⟩ → Calls Try.prog 18 #[.pointer (some ⟨b, 0, none⟩), .int .i64 5] W fun e w' => e = .returned (.tuple #[.int .i64 2, .int .i64 0]) ∧ CrAt w' b ⟨2, 2, []⟩ ∧ Kp [b] W w') := hide (fun W b h => cGive_any b ⟨2, 0, []⟩ 5 W h)
  have P1 : Hid (∀ W b, CrAt W b ⟨2, 2, []⟩ → Calls Try.prog 16 #[.pointer (some ⟨b, 0, none⟩), .string ⟨#[97]⟩] W fun e w' => e = .returned (.int .i64 0) ∧ CrAt w' b ⟨2, 1, [⟨#[97]⟩]⟩ ∧ Kp [b] W w') := hide (fun W b h => cPut_any b ⟨2, 2, []⟩ ⟨#[97]⟩ W h (by decide))
  have P2 : Hid (∀ W b, CrAt W b ⟨2, 1, [⟨#[97]⟩]⟩ → Calls Try.prog 16 #[.pointer (some ⟨b, 0, none⟩), .string ⟨#[98]⟩] W fun e w' => e = .returned (.int .i64 0) ∧ CrAt w' b ⟨2, 0, [⟨#[97]⟩, ⟨#[98]⟩]⟩ ∧ Kp [b] W w') := hide (fun W b h => cPut_any b ⟨2, 1, [⟨#[97]⟩]⟩ ⟨#[98]⟩ W h (by decide))
  have P3 : Hid (∀ W b, CrAt W b ⟨2, 0, [⟨#[97]⟩, ⟨#[98]⟩]⟩ → Calls Try.prog 16 #[.pointer (some ⟨b, 0, none⟩), .string ⟨#[99]⟩] W fun e w' => e = .returned (.int .i64 200) ∧ CrAt w' b ⟨2, 0, [⟨#[97]⟩, ⟨#[98]⟩]⟩ ∧ Kp [b] W w') := hide (fun W b h => cPut_any b ⟨2, 0, [⟨#[97]⟩, ⟨#[98]⟩]⟩ ⟨#[99]⟩ W h (by decide))
  have T1 : Hid (∀ W b, CrAt W b ⟨2, 0, [⟨#[97]⟩, ⟨#[98]⟩]⟩ → Calls Try.prog 17 #[.pointer (some ⟨b, 0, none⟩)] W fun e w' => e = .returned (.tuple #[.string ⟨#[97]⟩, .int .i64 0]) ∧ CrAt w' b ⟨2, 0, [⟨#[98]⟩]⟩ ∧ Kp [b] W w') := hide (fun W b h => cTake_any b ⟨2, 0, [⟨#[97]⟩, ⟨#[98]⟩]⟩ W h)
  have G2 : Hid (∀ W b, CrAt W b ⟨2, 0, [⟨#[98]⟩]⟩ → Calls Try.prog 18 #[.pointer (some ⟨b, 0, none⟩), .int .i64 5] W fun e w' => e = .returned (.tuple #[.int .i64 1, .int .i64 0]) ∧ CrAt w' b ⟨2, 1, [⟨#[98]⟩]⟩ ∧ Kp [b] W w') := hide (fun W b h => cGive_any b ⟨2, 0, [⟨#[98]⟩]⟩ 5 W h)
  have P4 : Hid (∀ W b, CrAt W b ⟨2, 1, [⟨#[98]⟩]⟩ → Calls Try.prog 16 #[.pointer (some ⟨b, 0, none⟩), .string ⟨#[99]⟩] W fun e w' => e = .returned (.int .i64 0) ∧ CrAt w' b ⟨2, 0, [⟨#[98]⟩, ⟨#[99]⟩]⟩ ∧ Kp [b] W w') := hide (fun W b h => cPut_any b ⟨2, 1, [⟨#[98]⟩]⟩ ⟨#[99]⟩ W h (by decide))
  have L1 : Hid (∀ W b, CrAt W b ⟨2, 0, [⟨#[98]⟩, ⟨#[99]⟩]⟩ → Calls Try.prog 10 #[.pointer (some ⟨b, 0, none⟩)] W fun e w' => e = .returned (.int .i64 2) ∧ w' = W) := hide (fun W b h => cLen_any b ⟨2, 0, [⟨#[98]⟩, ⟨#[99]⟩]⟩ W h)
  generalize hB : w.heap.size = b at *
  have HB := hide hB
  clear hB
  go_enter Try.func13, Try.ntmps13
  go_wp2_with fail
  refine (unhide N).mono ?_
  rintro r w1 ⟨rfl, a1, k1⟩
  have A1 := hide a1
  have K1 := hide k1
  clear N a1 k1
  go_wp2_with fail
  refine (unhide G1 _ _ (unhide A1)).mono ?_
  rintro r w2 ⟨rfl, a2, k2⟩
  have A2 := hide a2
  have K2 := hide (kp_own (unhide K1) k2 (by have := unhide HB; omega))
  clear G1 A1 K1 a2 k2
  go_wp2_with fail
  refine (unhide P1 _ _ (unhide A2)).mono ?_
  rintro r w3 ⟨rfl, a3, k3⟩
  have A3 := hide a3
  have K3 := hide (kp_own (unhide K2) k3 (by have := unhide HB; omega))
  clear P1 A2 K2 a3 k3
  go_wp2_with fail
  refine (unhide P2 _ _ (unhide A3)).mono ?_
  rintro r w4 ⟨rfl, a4, k4⟩
  have A4 := hide a4
  have K4 := hide (kp_own (unhide K3) k4 (by have := unhide HB; omega))
  clear P2 A3 K3 a4 k4
  go_wp2_with fail
  refine (unhide P3 _ _ (unhide A4)).mono ?_
  rintro r w5 ⟨rfl, a5, k5⟩
  have A5 := hide a5
  have K5 := hide (kp_own (unhide K4) k5 (by have := unhide HB; omega))
  clear P3 A4 K4 a5 k5
  go_wp2_with fail
  refine (unhide T1 _ _ (unhide A5)).mono ?_
  rintro r w6 ⟨rfl, a6, k6⟩
  have A6 := hide a6
  have K6 := hide (kp_own (unhide K5) k6 (by have := unhide HB; omega))
  clear T1 A5 K5 a6 k6
  go_wp2_with fail
  refine (unhide G2 _ _ (unhide A6)).mono ?_
  rintro r w7 ⟨rfl, a7, k7⟩
  have A7 := hide a7
  have K7 := hide (kp_own (unhide K6) k7 (by have := unhide HB; omega))
  clear G2 A6 K6 a7 k7
  go_wp2_with fail
  refine (unhide P4 _ _ (unhide A7)).mono ?_
  rintro r w8 ⟨rfl, a8, k8⟩
  have A8 := hide a8
  have K8 := hide (kp_own (unhide K7) k8 (by have := unhide HB; omega))
  clear P4 A7 K7 a8 k8
  go_wp2_with fail
  refine (unhide L1 _ _ (unhide A8)).mono ?_
  rintro r w9 ⟨rfl, rfl⟩
  go_wp2
  go_ret
  exact ⟨rfl, unhide K8⟩
end Go.Proofs.Ytcogcfnbgicjcaa
namespace Go.Proofs.Ytcogcfnbgicjcaa
open Go.RowKit

/-- Numbers lie where the slice says. -/
def IntsAt (w : World) (ad : Option Addr) (l : List Int) : Prop :=
  l ≠ [] → ∃ b off, ad = some ⟨b, off, none⟩ ∧ b < w.heap.size ∧ ∀ i (h : i < l.length), w.cell? ⟨b, off + i, none⟩ = some (.int .i64 l[i])
theorem IntsAt.below {w w' : World} {B : Nat} {ad : Option Addr} {l : List Int} (h : IntsAt w ad l) (hb : Below B w w') (hB : w.heap.size ≤ B) : IntsAt w' ad l := fun hl => by
  obtain ⟨b, off, e, hlt, hc⟩ := h hl
  exact ⟨b, off, e, Nat.lt_of_lt_of_le hlt hb.size, fun i hi => (hb.cell (p := ⟨b, off + i, none⟩) (Nat.lt_of_lt_of_le hlt hB)).trans (hc i hi)⟩
end Go.Proofs.Ytcogcfnbgicjcaa
namespace Go.Proofs.Ytcogcfnbgicjcaa
open Go.RowKit Cr

/-- The text number j. -/
def bmk (j : Nat) : ByteArray := ⟨#[UInt8.ofNat (j % 256)]⟩
theorem bone_string (w : World) (j : Nat) : (convert 48 9 (.slice (some ⟨w.heap.size, 0, none⟩) 1 1)).run Try.prog (w.alloc (.cells #[.int .u8 ((j % 256 : Nat) : Int)] 5)) = .ok (.string (bmk j)) (w.alloc (.cells #[.int .u8 ((j % 256 : Nat) : Int)] 5)) := by
  have := run_convert_bytes_arg (P := Try.prog) (w.alloc (.cells #[.int .u8 ((j % 256 : Nat) : Int)] 5)) 48 5 Try.underlying48 Try.underlying5 w.heap.size 0 1 1 [((j % 256 : Nat) : Int)] (by simp) (fun i hi => by
    obtain rfl : i = 0 := by omega
    exact (CBox.new w #[.int .u8 ((j % 256 : Nat) : Int)] 5).cell rfl) 9 Try.underlying9
  rw [this]
  congr 1
/-- The texts from T on, m of them. -/
def bq (T m : Nat) : List ByteArray := (List.range' T m).map bmk
theorem bq_len (T m : Nat) : (bq T m).length = m := by unfold bq; rw [List.length_map, List.length_range']
theorem bq_snoc (T m : Nat) : bq T (m + 1) = bq T m ++ [bmk (T + m)] := by
  unfold bq
  rw [← List.range'_append_1, List.map_append]
  rfl
theorem bq_cons (T m : Nat) : bq T (m + 1) = bmk T :: bq (T + 1) m := rfl
/-- What there is between two moves. -/
structure Bn (w W : World) (b p c T m d : Nat) : Prop where
  st : CrAt W b ⟨c, d, bq T m⟩
  ps : PsAt W p d
  kp : Kp [] w W
  geb : w.heap.size ≤ b
  gep : w.heap.size ≤ p
theorem Bn.ne {w W : World} {b p c T m d : Nat} (h : Bn w W b p c T m d) : b ≠ p := by
  rintro rfl
  obtain ⟨cs, f, h1⟩ := h.st
  have h2 := h1.box
  have h3 := h.ps
  unfold PsAt at h3
  unfold CBox at h2 h3
  rw [h2] at h3
  injection h3 with e; injection e with _ e; exact absurd e (by decide)
theorem Bn.store {w W W' : World} {b p c T m d T' m' : Nat} (h : Bn w W b p c T m d) (a : CrAt W' b ⟨c, d, bq T' m'⟩) (k : Kp [b] W W') : Bn w W' b p c T' m' d :=
  ⟨a, CBox.kp h.ps k (by simpa using fun e => h.ne e.symm), kp_own h.kp k h.geb, h.geb, h.gep⟩
theorem Bn.quiet {w W W' : World} {b p c T m d : Nat} (h : Bn w W b p c T m d) (k : Kp [] W W') : Bn w W' b p c T m d :=
  ⟨h.st.kp k (by simp), CBox.kp h.ps k (by simp), h.kp.trans k (by simp), h.geb, h.gep⟩
/-- A credit is spent, then the text is put. -/
theorem Bn.sent {w W W1 W2 W3 : World} {b p c T m d : Nat} (h : Bn w W b p c T m (d + 1)) (a : PsAt W1 p d) (k1 : Kp [p] W W1) (k2 : Kp [] W1 W2) (a2 : CrAt W3 b ⟨c, d, bq T (m + 1)⟩) (k3 : Kp [b] W2 W3) : Bn w W3 b p c T (m + 1) d :=
  ⟨a2, CBox.kp (CBox.kp a k2 (by simp)) k3 (by simpa using fun e => h.ne e.symm), kp_own ((kp_own h.kp k1 h.gep).trans k2 (by simp)) k3 h.geb, h.geb, h.gep⟩
/-- Credits are given. -/
theorem Bn.given {w W W1 W2 : World} {b p c T m d x : Nat} (h : Bn w W b p c T m d) (a : CrAt W1 b ⟨c, d + x, bq T m⟩) (k1 : Kp [b] W W1) (a2 : PsAt W2 p (d + x)) (k2 : Kp [p] W1 W2) : Bn w W2 b p c T m (d + x) :=
  ⟨a.kp k2 (by simpa using fun e => h.ne e), a2, kp_own (kp_own h.kp k1 h.geb) k2 h.gep, h.geb, h.gep⟩
theorem Bn.room {w W : World} {b p c T m d : Nat} (h : Bn w W b p c T m d) : m + d ≤ c ∧ c ≤ 256 := by
  obtain ⟨cs, f, h⟩ := h.st
  have := h.ok.room
  have := h.ok.hi
  simp only [bq_len] at *
  omega
theorem bints_cell {w W : World} {ad : Option Addr} {l : List Int} (h : IntsAt w ad l) (hb : Kp [] w W) (i : Nat) (hi : i < l.length) : ∃ b o, ad = some ⟨b, o, none⟩ ∧ W.cell? ⟨b, o + i, none⟩ = some (.int .i64 l[i]) := by
  obtain ⟨b, o, e, _, hc⟩ := h (by intro e; rw [e] at hi; cases hi)
  exact ⟨b, o, e, hb.cell (hc i hi) (by simp)⟩
end Go.Proofs.Ytcogcfnbgicjcaa
namespace Go.Proofs.Ytcogcfnbgicjcaa
open Go.RowKit Go.Deep

theorem cells_int : Try.prog.cellsOf 3 = 1 := by kernel_rfl
section
variable {H : Type} {enc : TypeId × Value → H} {W : World} {spare : Nat → Bool} {held : Bool} {fuel : Nat} {v : Value} {x : DataW H × List MemPlace}
theorem open_ints (h : DataW.trod enc Try.prog W 0 spare held fuel 44 [v] = some x) :
    ∃ (ad : Option Addr) (cap : Nat) (l : List Int), v = .slice ad l.length cap ∧ l.length ≤ 9223372036854775807 ∧ IntsAt W ad l ∧ (∀ y ∈ l, -9223372036854775808 ≤ y ∧ y ≤ 9223372036854775807) ∧ (ad = none → cap = 0) := by
  rcases open_slice1 Try.underlying44 cells_int h with ⟨hcs, _⟩ | ⟨a, len, cap, m, n, V, D, Pl, hcs, hb, hl, hm, hmm, _, hx⟩
  · simp only [List.cons.injEq, and_true] at hcs
    subst hcs
    exact ⟨none, 0, [], rfl, by simp, fun hne => absurd rfl hne, by simp, fun _ => rfl⟩
  · simp only [List.cons.injEq, and_true] at hcs
    subst hcs
    have hlm : len ≤ m := by rw [hmm]; split <;> omega
    have each : ∀ i, i < len → ∃ y : Int, W.cell? (a.add i) = some (.int .i64 y) ∧ -9223372036854775808 ≤ y ∧ y ≤ 9223372036854775807 := by
      intro i hi
      obtain ⟨h1, h2⟩ := hx i (by omega)
      obtain ⟨k1, q1, _, wf⟩ := DataW.trod_int Try.underlying3 h2
      simp only [List.cons.injEq, and_true] at q1
      rw [q1] at h1
      have := bounds_i64 wf
      exact ⟨k1, h1, this.1, by omega⟩
    have hinh : Inhabited Int := ⟨0⟩
    obtain ⟨q, hq⟩ := choose_lt each
    refine ⟨some a, cap, (List.range len).map q, by simp, by simp; unfold maxLen at hm; omega, fun hne => ?_, fun y hy => ?_, fun e => by cases e⟩
    · have h0 : 0 < len := by
        rcases Nat.eq_zero_or_pos len with e | e
        · subst e; simp at hne
        · exact e
      obtain ⟨b, off, spot⟩ := a
      have hc0 := (hq 0 h0).1
      have hspot : spot = none := by simpa [Addr.add] using World.cell?_spot hc0
      subst hspot
      refine ⟨b, off, rfl, ?_, fun i hi => ?_⟩
      · rcases Nat.lt_or_ge b W.heap.size with hlt | hge
        · exact hlt
        · exfalso
          rw [Go.WideShapes.add_plain] at hc0
          simp [World.cell?, Array.getElem?_eq_none hge] at hc0
      · have hi' : i < len := by simpa using hi
        obtain ⟨c0, _⟩ := hq i hi'
        rw [Go.WideShapes.add_plain] at c0
        simp only [List.getElem_map, List.getElem_range]
        exact c0
    · obtain ⟨i, hi, rfl⟩ := List.mem_map.1 hy
      exact (hq i (List.mem_range.1 hi)).2
theorem open_intsB (h : DataW.trod enc Try.prog W 0 spare held fuel 44 [v] = some x) :
    ∃ (ad : Option Addr) (cap : Nat) (l : List Int), v = .slice ad l.length cap ∧ l.length ≤ 9223372036854775807 ∧ IntsAt W ad l ∧ ∀ y ∈ l, -9223372036854775808 ≤ y ∧ y ≤ 9223372036854775807 :=
  let ⟨ad, cap, l, h1, h2, h3, h4, _⟩ := open_ints h
  ⟨ad, cap, l, h1, h2, h3, h4⟩
end
end Go.Proofs.Ytcogcfnbgicjcaa
