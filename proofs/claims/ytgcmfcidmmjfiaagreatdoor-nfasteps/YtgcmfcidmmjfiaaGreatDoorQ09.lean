/-
  The table of operations: how it lies, a row of it, which kinds an operation fits.
  Which kinds an operation fits.
  shapeOf: the kind and the depth of a part and its sides.
-/
import Derived.Test.YtgcmfcidmmjfiaaGreatDoorQ08
import Derived.Deep.WholeRow
import Derived.Laws.EntriesVeiled
import Derived.Laws.Rows
namespace Go.Proofs.YtgcmfcidmmjfiaaGreatDoor
open Go.RowKit

/-- The table of operations. -/
def opsV : Array Value := #[.string ⟨#[]⟩, .int .i64 0, .int .u64 0, .int .i64 0, .nilFunc, .string ⟨#[]⟩, .int .i64 0, .int .u64 0, .int .i64 0, .nilFunc, .string ⟨#[]⟩, .int .i64 0, .int .u64 0, .int .i64 0, .nilFunc, .string ⟨#[]⟩, .int .i64 0, .int .u64 0, .int .i64 0, .nilFunc, .string ⟨#[43]⟩, .int .i64 2, .int .u64 2, .int .i64 1, .func (.func 134) #[] #[], .string ⟨#[45]⟩, .int .i64 2, .int .u64 2, .int .i64 1, .func (.func 135) #[] #[], .string ⟨#[42]⟩, .int .i64 2, .int .u64 2, .int .i64 1, .func (.func 136) #[] #[], .string ⟨#[60]⟩, .int .i64 2, .int .u64 2, .int .i64 3, .func (.func 137) #[] #[], .string ⟨#[60, 61]⟩, .int .i64 2, .int .u64 2, .int .i64 3, .func (.func 138) #[] #[], .string ⟨#[61, 61]⟩, .int .i64 2, .int .u64 6, .int .i64 3, .func (.func 139) #[] #[], .string ⟨#[33, 61]⟩, .int .i64 2, .int .u64 6, .int .i64 3, .func (.func 140) #[] #[], .string ⟨#[97, 110, 100]⟩, .int .i64 2, .int .u64 8, .int .i64 3, .func (.func 141) #[] #[], .string ⟨#[111, 114]⟩, .int .i64 2, .int .u64 8, .int .i64 3, .func (.func 142) #[] #[], .string ⟨#[110, 111, 116]⟩, .int .i64 1, .int .u64 8, .int .i64 3, .func (.func 143) #[] #[]]
theorem opsV_size : opsV.size = 70 := rfl
theorem opsV_one : opsV.all (·.oneCell') = true := by kernel_rfl
theorem info_tab : (Tryz.prog.info? 169).map (·.size) = some 70 := by kernel_rfl
set_option maxHeartbeats 2000000 in
set_option maxRecDepth 100000 in
theorem operations_any (w : World) : Calls Tryz.prog 122 #[] w fun e w' => e = .returned (.agg opsV) ∧ Kp [] w w' := by
  go_enter Tryz.func122, Tryz.ntmps122
  go_wp2
  generalize hX : Array.setIfInBounds _ 69 _ = X
  obtain rfl : X = opsV := hX.symm.trans (by kernel_rfl)
  clear hX
  generalize hY : List.set _ 69 _ = Y
  obtain rfl : Y = opsV.toList := hY.symm.trans (by kernel_rfl)
  clear hY
  rw [run_storeCells_new w _ _ opsV info_tab (by kernel_rfl) opsV_one]
  simp only [Result.andThen_ok]
  rw [Oper.upon_skip]
  go_wp2
  exact bodyPost_ret (results_cell_row Tryz.results122 _ _ w.heap.size 169 opsV (0, 0) _ rfl (heap_alloc_new w _) Tryz.underlying169 rfl info_tab) rfl ⟨rfl, Kp.alloc _ _⟩
/-! A row of the table. -/
def ofO (k : Int) : Int := if k < 4 then 0 else if k ≤ 8 then 2 else if k ≤ 10 then 6 else if k ≤ 13 then 8 else 0
def isO (k : Int) : Int := if k < 4 then 0 else if k ≤ 6 then 1 else if k ≤ 13 then 3 else 0
def fnO (k : Int) : Value := if k = 4 then .func (.func 134) #[] #[] else if k = 5 then .func (.func 135) #[] #[] else if k = 6 then .func (.func 136) #[] #[] else if k = 7 then .func (.func 137) #[] #[] else if k = 8 then .func (.func 138) #[] #[] else if k = 9 then .func (.func 139) #[] #[] else if k = 10 then .func (.func 140) #[] #[] else if k = 11 then .func (.func 141) #[] #[] else if k = 12 then .func (.func 142) #[] #[] else if k = 13 then .func (.func 143) #[] #[] else .nilFunc
def rowC (k : Int) : Array Value := #[.string (txt (sgO k)), .int .i64 (sds k : Nat), .int .u64 (ofO k), .int .i64 (isO k), fnO k]
theorem opsV_row : ∀ k : Fin 14, opsV[k.val * 5]? = some (.string (txt (sgO (k.val : Int)))) ∧ opsV[k.val * 5 + 1]? = some (.int .i64 (sds (k.val : Int) : Nat)) ∧ opsV[k.val * 5 + 2]? = some (.int .u64 (ofO (k.val : Int))) ∧ opsV[k.val * 5 + 3]? = some (.int .i64 (isO (k.val : Int))) ∧ opsV[k.val * 5 + 4]? = some (fnO (k.val : Int))
  | ⟨0, _⟩ => ⟨rfl, rfl, rfl, rfl, rfl⟩
  | ⟨1, _⟩ => ⟨rfl, rfl, rfl, rfl, rfl⟩
  | ⟨2, _⟩ => ⟨rfl, rfl, rfl, rfl, rfl⟩
  | ⟨3, _⟩ => ⟨rfl, rfl, rfl, rfl, rfl⟩
  | ⟨4, _⟩ => ⟨rfl, rfl, rfl, rfl, rfl⟩
  | ⟨5, _⟩ => ⟨rfl, rfl, rfl, rfl, rfl⟩
  | ⟨6, _⟩ => ⟨rfl, rfl, rfl, rfl, rfl⟩
  | ⟨7, _⟩ => ⟨rfl, rfl, rfl, rfl, rfl⟩
  | ⟨8, _⟩ => ⟨rfl, rfl, rfl, rfl, rfl⟩
  | ⟨9, _⟩ => ⟨rfl, rfl, rfl, rfl, rfl⟩
  | ⟨10, _⟩ => ⟨rfl, rfl, rfl, rfl, rfl⟩
  | ⟨11, _⟩ => ⟨rfl, rfl, rfl, rfl, rfl⟩
  | ⟨12, _⟩ => ⟨rfl, rfl, rfl, rfl, rfl⟩
  | ⟨13, _⟩ => ⟨rfl, rfl, rfl, rfl, rfl⟩
theorem rowC_none {k : Int} (h : k < 0 ∨ 14 ≤ k) : rowC k = #[.string ⟨#[]⟩, .int .i64 0, .int .u64 0, .int .i64 0, .nilFunc] := by
  have e1 : sgO k = [] := by unfold sgO; repeat rw [if_neg (by omega)]
  have e2 : sds k = 0 := by unfold sds; rw [if_neg (by omega), if_neg (by omega)]
  have e3 : ofO k = 0 := by unfold ofO; split; rfl; rw [if_neg (by omega), if_neg (by omega), if_neg (by omega)]
  have e4 : isO k = 0 := by unfold isO; split; rfl; rw [if_neg (by omega), if_neg (by omega)]
  have e5 : fnO k = .nilFunc := by unfold fnO; repeat rw [if_neg (by omega)]
  unfold rowC
  rw [e1, e2, e3, e4, e5]
  rfl
theorem fnO_one (k : Int) : (fnO k).oneCell' = true := by
  unfold fnO
  repeat' split
  all_goals rfl
theorem info_op : (Tryz.prog.info? 167).map (·.size) = some 5 := by kernel_rfl
theorem row_end {w : World} {S : ByteArray} {N O I : Int} {F : Value} {tmps : Array Value} (ht : tmps.getD 4 undef = .pointer (some ⟨w.heap.size, 0, none⟩)) : (results Tryz.f124 tmps).run Tryz.prog (w.alloc (.cells #[.string S, .int .i64 N, .int .u64 O, .int .i64 I, F] 167)) = .ok (.agg #[.string S, .int .i64 N, .int .u64 O, .int .i64 I, F]) (w.alloc (.cells #[.string S, .int .i64 N, .int .u64 O, .int .i64 I, F] 167)) :=
  results_cell_row Tryz.results124 _ _ w.heap.size 167 _ (0, 0) _ ht (heap_alloc_new w _) Tryz.underlying167 rfl info_op
set_option maxHeartbeats 2000000 in
set_option maxRecDepth 100000 in
theorem row_any (g : Nat) (k : Int) (w : World) (hg : CBox g opsV 169 w) : Calls Tryz.prog 124 #[.pointer (some ⟨g, 0, none⟩), .int .i64 k] w fun e w' => e = .returned (.agg (rowC k)) ∧ Kp [] w w' := by
  by_cases h0 : k < 0
  · rw [rowC_none (Or.inl h0)]
    clear hg
    go_enter Tryz.func124, Tryz.ntmps124
    go_wp2
    exact bodyPost_ret (v := .agg #[.string ⟨#[]⟩, .int .i64 0, .int .u64 0, .int .i64 0, .nilFunc]) (row_end (w := w) rfl) rfl ⟨rfl, Kp.alloc _ _⟩
  · by_cases h1 : 14 ≤ k
    · rw [rowC_none (Or.inr h1)]
      clear hg
      go_enter Tryz.func124, Tryz.ntmps124
      go_wp2
      exact bodyPost_ret (v := .agg #[.string ⟨#[]⟩, .int .i64 0, .int .u64 0, .int .i64 0, .nilFunc]) (row_end (w := w) rfl) rfl ⟨rfl, Kp.alloc _ _⟩
    · obtain ⟨n, rfl⟩ : ∃ n : Nat, k = (n : Int) := ⟨k.toNat, by omega⟩
      obtain ⟨c0, c1, c2, c3, c4⟩ := opsV_row ⟨n, by omega⟩
      have hg2 := hg.kp (Kp.alloc w (.cells #[.string ⟨#[]⟩, .int .i64 0, .int .u64 0, .int .i64 0, .nilFunc] 167)) (by simp)
      have d0 := hg2.cell c0
      have d1 := hg2.cell c1
      have d2 := hg2.cell c2
      have d3 := hg2.cell c3
      have d4 := hg2.cell c4
      have hone := fnO_one (n : Int)
      unfold rowC
      generalize fnO (n : Int) = F at *
      generalize txt (sgO (n : Int)) = S at *
      generalize sds (n : Int) = N at *
      generalize ofO (n : Int) = O at *
      generalize isO (n : Int) = I at *
      have st : ∀ W a m, (store a F m).run Tryz.prog W = stored Tryz.prog W a F m := fun W a m => run_store Tryz.prog W a F m hone
      clear hg hg2 c0 c1 c2 c3 c4 hone
      dsimp only at *
      go_enter Tryz.func124, Tryz.ntmps124
      go_wp2
      exact bodyPost_ret (v := .agg #[.string S, .int .i64 (N : Int), .int .u64 O, .int .i64 I, F]) (row_end (w := w) rfl) rfl ⟨rfl, Kp.alloc _ _⟩
end Go.Proofs.YtgcmfcidmmjfiaaGreatDoor
namespace Go.Proofs.YtgcmfcidmmjfiaaGreatDoor
open Go.RowKit

/-! Which kinds an operation fits. -/
def fitB (k a b : Int) : Bool := decide (opK k a b ≠ 0)
theorem opK_fit (k a b : Int) : opK k a b = if fitB k a b then isO k else 0 := by
  unfold fitB
  by_cases h : opK k a b = 0
  · simp [h]
  · simp only [ne_eq, h, not_false_eq_true, decide_true, if_true]
    unfold opK at h ⊢
    unfold isO
    repeat' split at h
    all_goals first | (exact absurd rfl h) | skip
    all_goals (repeat' split)
    all_goals first | rfl | omega
theorem fit_ne {k a b : Int} (h : a ≠ b) (hk : k ≠ 13) : fitB k a b = false := by
  unfold fitB opK
  repeat' split
  all_goals first | rfl | (exfalso; omega)
theorem bit_facts : bits .and .u64 0 1 = 0 ∧ bits .and .u64 1 1 = 1 ∧ bits .and .u64 2 1 = 0 ∧ bits .and .u64 3 1 = 1 ∧ bits .and .u64 4 1 = 0 ∧ bits .and .u64 6 1 = 0 ∧ bits .and .u64 8 1 = 0 := by decide
set_option maxHeartbeats 2000000 in
set_option maxRecDepth 100000 in
theorem fits_4 (S : ByteArray) (F : Value) (a b : Int) (w : World) (ha : 0 ≤ a) (ha2 : a ≤ 3) : Calls Tryz.prog 126 #[.agg #[.string S, .int .i64 2, .int .u64 2, .int .i64 1, F], .int .i64 a, .int .i64 b] w fun e w' => e = .returned (.bool (fitB 4 a b)) ∧ Kp [] w w' := by
  obtain ⟨t0, t1, t2, t3, t4, t6, t8⟩ := bit_facts
  by_cases hab : a = b
  · subst hab
    rcases (show a = 0 ∨ a = 1 ∨ a = 2 ∨ a = 3 by omega) with rfl | rfl | rfl | rfl
    all_goals (
      go_enter Tryz.func126, Tryz.ntmps126
      go_wp2
      go_ret
      exact ⟨rfl, Kp.alloc _ _⟩)
  · rw [fit_ne hab (by decide)]
    have q1 : (a == b) = false := beq_eq_false_iff_ne.2 hab
    rcases (show a = 0 ∨ a = 1 ∨ a = 2 ∨ a = 3 by omega) with rfl | rfl | rfl | rfl
    all_goals (
      go_enter Tryz.func126, Tryz.ntmps126
      go_wp2
      go_ret
      exact ⟨rfl, Kp.alloc _ _⟩)
set_option maxHeartbeats 2000000 in
set_option maxRecDepth 100000 in
theorem fits_5 (S : ByteArray) (F : Value) (a b : Int) (w : World) (ha : 0 ≤ a) (ha2 : a ≤ 3) : Calls Tryz.prog 126 #[.agg #[.string S, .int .i64 2, .int .u64 2, .int .i64 1, F], .int .i64 a, .int .i64 b] w fun e w' => e = .returned (.bool (fitB 5 a b)) ∧ Kp [] w w' := by
  obtain ⟨t0, t1, t2, t3, t4, t6, t8⟩ := bit_facts
  by_cases hab : a = b
  · subst hab
    rcases (show a = 0 ∨ a = 1 ∨ a = 2 ∨ a = 3 by omega) with rfl | rfl | rfl | rfl
    all_goals (
      go_enter Tryz.func126, Tryz.ntmps126
      go_wp2
      go_ret
      exact ⟨rfl, Kp.alloc _ _⟩)
  · rw [fit_ne hab (by decide)]
    have q1 : (a == b) = false := beq_eq_false_iff_ne.2 hab
    rcases (show a = 0 ∨ a = 1 ∨ a = 2 ∨ a = 3 by omega) with rfl | rfl | rfl | rfl
    all_goals (
      go_enter Tryz.func126, Tryz.ntmps126
      go_wp2
      go_ret
      exact ⟨rfl, Kp.alloc _ _⟩)
set_option maxHeartbeats 2000000 in
set_option maxRecDepth 100000 in
theorem fits_6 (S : ByteArray) (F : Value) (a b : Int) (w : World) (ha : 0 ≤ a) (ha2 : a ≤ 3) : Calls Tryz.prog 126 #[.agg #[.string S, .int .i64 2, .int .u64 2, .int .i64 1, F], .int .i64 a, .int .i64 b] w fun e w' => e = .returned (.bool (fitB 6 a b)) ∧ Kp [] w w' := by
  obtain ⟨t0, t1, t2, t3, t4, t6, t8⟩ := bit_facts
  by_cases hab : a = b
  · subst hab
    rcases (show a = 0 ∨ a = 1 ∨ a = 2 ∨ a = 3 by omega) with rfl | rfl | rfl | rfl
    all_goals (
      go_enter Tryz.func126, Tryz.ntmps126
      go_wp2
      go_ret
      exact ⟨rfl, Kp.alloc _ _⟩)
  · rw [fit_ne hab (by decide)]
    have q1 : (a == b) = false := beq_eq_false_iff_ne.2 hab
    rcases (show a = 0 ∨ a = 1 ∨ a = 2 ∨ a = 3 by omega) with rfl | rfl | rfl | rfl
    all_goals (
      go_enter Tryz.func126, Tryz.ntmps126
      go_wp2
      go_ret
      exact ⟨rfl, Kp.alloc _ _⟩)
set_option maxHeartbeats 2000000 in
set_option maxRecDepth 100000 in
theorem fits_7 (S : ByteArray) (F : Value) (a b : Int) (w : World) (ha : 0 ≤ a) (ha2 : a ≤ 3) : Calls Tryz.prog 126 #[.agg #[.string S, .int .i64 2, .int .u64 2, .int .i64 3, F], .int .i64 a, .int .i64 b] w fun e w' => e = .returned (.bool (fitB 7 a b)) ∧ Kp [] w w' := by
  obtain ⟨t0, t1, t2, t3, t4, t6, t8⟩ := bit_facts
  by_cases hab : a = b
  · subst hab
    rcases (show a = 0 ∨ a = 1 ∨ a = 2 ∨ a = 3 by omega) with rfl | rfl | rfl | rfl
    all_goals (
      go_enter Tryz.func126, Tryz.ntmps126
      go_wp2
      go_ret
      exact ⟨rfl, Kp.alloc _ _⟩)
  · rw [fit_ne hab (by decide)]
    have q1 : (a == b) = false := beq_eq_false_iff_ne.2 hab
    rcases (show a = 0 ∨ a = 1 ∨ a = 2 ∨ a = 3 by omega) with rfl | rfl | rfl | rfl
    all_goals (
      go_enter Tryz.func126, Tryz.ntmps126
      go_wp2
      go_ret
      exact ⟨rfl, Kp.alloc _ _⟩)
set_option maxHeartbeats 2000000 in
set_option maxRecDepth 100000 in
theorem fits_8 (S : ByteArray) (F : Value) (a b : Int) (w : World) (ha : 0 ≤ a) (ha2 : a ≤ 3) : Calls Tryz.prog 126 #[.agg #[.string S, .int .i64 2, .int .u64 2, .int .i64 3, F], .int .i64 a, .int .i64 b] w fun e w' => e = .returned (.bool (fitB 8 a b)) ∧ Kp [] w w' := by
  obtain ⟨t0, t1, t2, t3, t4, t6, t8⟩ := bit_facts
  by_cases hab : a = b
  · subst hab
    rcases (show a = 0 ∨ a = 1 ∨ a = 2 ∨ a = 3 by omega) with rfl | rfl | rfl | rfl
    all_goals (
      go_enter Tryz.func126, Tryz.ntmps126
      go_wp2
      go_ret
      exact ⟨rfl, Kp.alloc _ _⟩)
  · rw [fit_ne hab (by decide)]
    have q1 : (a == b) = false := beq_eq_false_iff_ne.2 hab
    rcases (show a = 0 ∨ a = 1 ∨ a = 2 ∨ a = 3 by omega) with rfl | rfl | rfl | rfl
    all_goals (
      go_enter Tryz.func126, Tryz.ntmps126
      go_wp2
      go_ret
      exact ⟨rfl, Kp.alloc _ _⟩)
set_option maxHeartbeats 2000000 in
set_option maxRecDepth 100000 in
theorem fits_9 (S : ByteArray) (F : Value) (a b : Int) (w : World) (ha : 0 ≤ a) (ha2 : a ≤ 3) : Calls Tryz.prog 126 #[.agg #[.string S, .int .i64 2, .int .u64 6, .int .i64 3, F], .int .i64 a, .int .i64 b] w fun e w' => e = .returned (.bool (fitB 9 a b)) ∧ Kp [] w w' := by
  obtain ⟨t0, t1, t2, t3, t4, t6, t8⟩ := bit_facts
  by_cases hab : a = b
  · subst hab
    rcases (show a = 0 ∨ a = 1 ∨ a = 2 ∨ a = 3 by omega) with rfl | rfl | rfl | rfl
    all_goals (
      go_enter Tryz.func126, Tryz.ntmps126
      go_wp2
      go_ret
      exact ⟨rfl, Kp.alloc _ _⟩)
  · rw [fit_ne hab (by decide)]
    have q1 : (a == b) = false := beq_eq_false_iff_ne.2 hab
    rcases (show a = 0 ∨ a = 1 ∨ a = 2 ∨ a = 3 by omega) with rfl | rfl | rfl | rfl
    all_goals (
      go_enter Tryz.func126, Tryz.ntmps126
      go_wp2
      go_ret
      exact ⟨rfl, Kp.alloc _ _⟩)
set_option maxHeartbeats 2000000 in
set_option maxRecDepth 100000 in
theorem fits_10 (S : ByteArray) (F : Value) (a b : Int) (w : World) (ha : 0 ≤ a) (ha2 : a ≤ 3) : Calls Tryz.prog 126 #[.agg #[.string S, .int .i64 2, .int .u64 6, .int .i64 3, F], .int .i64 a, .int .i64 b] w fun e w' => e = .returned (.bool (fitB 10 a b)) ∧ Kp [] w w' := by
  obtain ⟨t0, t1, t2, t3, t4, t6, t8⟩ := bit_facts
  by_cases hab : a = b
  · subst hab
    rcases (show a = 0 ∨ a = 1 ∨ a = 2 ∨ a = 3 by omega) with rfl | rfl | rfl | rfl
    all_goals (
      go_enter Tryz.func126, Tryz.ntmps126
      go_wp2
      go_ret
      exact ⟨rfl, Kp.alloc _ _⟩)
  · rw [fit_ne hab (by decide)]
    have q1 : (a == b) = false := beq_eq_false_iff_ne.2 hab
    rcases (show a = 0 ∨ a = 1 ∨ a = 2 ∨ a = 3 by omega) with rfl | rfl | rfl | rfl
    all_goals (
      go_enter Tryz.func126, Tryz.ntmps126
      go_wp2
      go_ret
      exact ⟨rfl, Kp.alloc _ _⟩)
set_option maxHeartbeats 2000000 in
set_option maxRecDepth 100000 in
theorem fits_11 (S : ByteArray) (F : Value) (a b : Int) (w : World) (ha : 0 ≤ a) (ha2 : a ≤ 3) : Calls Tryz.prog 126 #[.agg #[.string S, .int .i64 2, .int .u64 8, .int .i64 3, F], .int .i64 a, .int .i64 b] w fun e w' => e = .returned (.bool (fitB 11 a b)) ∧ Kp [] w w' := by
  obtain ⟨t0, t1, t2, t3, t4, t6, t8⟩ := bit_facts
  by_cases hab : a = b
  · subst hab
    rcases (show a = 0 ∨ a = 1 ∨ a = 2 ∨ a = 3 by omega) with rfl | rfl | rfl | rfl
    all_goals (
      go_enter Tryz.func126, Tryz.ntmps126
      go_wp2
      go_ret
      exact ⟨rfl, Kp.alloc _ _⟩)
  · rw [fit_ne hab (by decide)]
    have q1 : (a == b) = false := beq_eq_false_iff_ne.2 hab
    rcases (show a = 0 ∨ a = 1 ∨ a = 2 ∨ a = 3 by omega) with rfl | rfl | rfl | rfl
    all_goals (
      go_enter Tryz.func126, Tryz.ntmps126
      go_wp2
      go_ret
      exact ⟨rfl, Kp.alloc _ _⟩)
set_option maxHeartbeats 2000000 in
set_option maxRecDepth 100000 in
theorem fits_12 (S : ByteArray) (F : Value) (a b : Int) (w : World) (ha : 0 ≤ a) (ha2 : a ≤ 3) : Calls Tryz.prog 126 #[.agg #[.string S, .int .i64 2, .int .u64 8, .int .i64 3, F], .int .i64 a, .int .i64 b] w fun e w' => e = .returned (.bool (fitB 12 a b)) ∧ Kp [] w w' := by
  obtain ⟨t0, t1, t2, t3, t4, t6, t8⟩ := bit_facts
  by_cases hab : a = b
  · subst hab
    rcases (show a = 0 ∨ a = 1 ∨ a = 2 ∨ a = 3 by omega) with rfl | rfl | rfl | rfl
    all_goals (
      go_enter Tryz.func126, Tryz.ntmps126
      go_wp2
      go_ret
      exact ⟨rfl, Kp.alloc _ _⟩)
  · rw [fit_ne hab (by decide)]
    have q1 : (a == b) = false := beq_eq_false_iff_ne.2 hab
    rcases (show a = 0 ∨ a = 1 ∨ a = 2 ∨ a = 3 by omega) with rfl | rfl | rfl | rfl
    all_goals (
      go_enter Tryz.func126, Tryz.ntmps126
      go_wp2
      go_ret
      exact ⟨rfl, Kp.alloc _ _⟩)
set_option maxHeartbeats 2000000 in
set_option maxRecDepth 100000 in
theorem fits_13 (S : ByteArray) (F : Value) (a b : Int) (w : World) (ha : 0 ≤ a) (ha2 : a ≤ 3) (hb : b = 0) : Calls Tryz.prog 126 #[.agg #[.string S, .int .i64 1, .int .u64 8, .int .i64 3, F], .int .i64 a, .int .i64 b] w fun e w' => e = .returned (.bool (fitB 13 a b)) ∧ Kp [] w w' := by
  obtain ⟨t0, t1, t2, t3, t4, t6, t8⟩ := bit_facts
  subst hb
  rcases (show a = 0 ∨ a = 1 ∨ a = 2 ∨ a = 3 by omega) with rfl | rfl | rfl | rfl
  all_goals (
    go_enter Tryz.func126, Tryz.ntmps126
    go_wp2
    go_ret
    exact ⟨rfl, Kp.alloc _ _⟩)
theorem fits_any (S : ByteArray) (F : Value) (k a b : Int) (w : World) (hk : 4 ≤ k) (hk2 : k ≤ 13) (ha : 0 ≤ a) (ha2 : a ≤ 3) (hb : k = 13 → b = 0) : Calls Tryz.prog 126 #[.agg #[.string S, .int .i64 (sds k : Nat), .int .u64 (ofO k), .int .i64 (isO k), F], .int .i64 a, .int .i64 b] w fun e w' => e = .returned (.bool (fitB k a b)) ∧ Kp [] w w' := by
  rcases (show k = 4 ∨ k = 5 ∨ k = 6 ∨ k = 7 ∨ k = 8 ∨ k = 9 ∨ k = 10 ∨ k = 11 ∨ k = 12 ∨ k = 13 by omega) with rfl | rfl | rfl | rfl | rfl | rfl | rfl | rfl | rfl | rfl
  · exact fits_4 S F a b w ha ha2
  · exact fits_5 S F a b w ha ha2
  · exact fits_6 S F a b w ha ha2
  · exact fits_7 S F a b w ha ha2
  · exact fits_8 S F a b w ha ha2
  · exact fits_9 S F a b w ha ha2
  · exact fits_10 S F a b w ha ha2
  · exact fits_11 S F a b w ha ha2
  · exact fits_12 S F a b w ha ha2
  · exact fits_13 S F a b w ha ha2 (hb rfl)
end Go.Proofs.YtgcmfcidmmjfiaaGreatDoor
namespace Go.Proofs.YtgcmfcidmmjfiaaGreatDoor
open Go.RowKit

def Sh.ok (a : Sh) : Prop := (0 ≤ a.kd ∧ a.kd ≤ 3) ∧ 0 ≤ a.dp ∧ a.dp ≤ 1000000
/-- The sides that count. -/
def takeS {α : Type} (n : Nat) (a b : α) : List α := if n = 0 then [] else if n = 1 then [a] else [a, b]
theorem ck_hit {p : Pt} {a b : Sh} (h : sds p.kd ≠ 0) (hb : sds p.kd = 1 → b = ⟨0, 0⟩) : shp p (takeS (sds p.kd) a b) = ⟨if bareP p then opK p.kd a.kd b.kd else 0, 1 + max a.dp b.dp⟩ := by
  have h2 := sds_le p.kd
  unfold takeS
  rcases (show sds p.kd = 1 ∨ sds p.kd = 2 by omega) with e | e
  · rw [e, hb e, if_neg (by omega), if_pos rfl]
    rfl
  · rw [e, if_neg (by omega), if_neg (by omega)]
    rfl
theorem info_shape : (Tryz.prog.info? 141).map (·.size) = some 2 := by kernel_rfl
theorem CBox.cells2 {g : Nat} {a b : Value} {t : TypeId} {w : World} (h : CBox g #[a, b] t w) : w.cell? ⟨g, 0, none⟩ = some a ∧ w.cell? ⟨g, 1, none⟩ = some b := ⟨h.cell rfl, h.cell rfl⟩
theorem sh_box {w w1 : World} {A B C : Obj} {a b : Value} {t : TypeId} (hb : Below ((((w.alloc A).alloc B).alloc C).alloc (.cells #[a, b] t)).heap.size ((((w.alloc A).alloc B).alloc C).alloc (.cells #[a, b] t)) w1) : CBox (w.heap.size + 3) #[a, b] t w1 := by
  have h := CBox.new (((w.alloc A).alloc B).alloc C) #[a, b] t
  rw [show (((w.alloc A).alloc B).alloc C).heap.size = w.heap.size + 3 by simp] at h
  unfold CBox
  rw [hb.block _ (by simp)]
  exact h
theorem sh_below {w w1 : World} {A B C D : Obj} (hb : Below ((((w.alloc A).alloc B).alloc C).alloc D).heap.size ((((w.alloc A).alloc B).alloc C).alloc D) w1) : Below w.heap.size w w1 :=
  (((((Below.refl _ _).alloc (Nat.le_refl _) _).alloc (by simp) _).alloc (by simp; omega) _).alloc (by simp; omega) _).trans (hb.mono (by simp; omega))
set_option maxHeartbeats 2000000 in
set_option maxRecDepth 100000 in
theorem shapeOf_leaf (p : Pt) (a b : Sh) (w : World) (hT : TbE w) (hf : p.fit) (h0 : sds p.kd = 0) : Calls Tryz.prog 110 #[p.v, .agg (rowC p.kd), .agg #[.int .i64 a.kd, .int .i64 a.dp, .int .i64 b.kd, .int .i64 b.dp]] w fun e w' => e = .returned (.agg #[.int .i64 (lfK p), .int .i64 1]) ∧ Below w.heap.size w w' := by
  have LK := hide (fun W hW => leafKind_any p W hW hf)
  unfold rowC
  rw [h0]
  have hone := fnO_one p.kd
  generalize fnO p.kd = F at *
  generalize txt (sgO p.kd) = S at *
  generalize ofO p.kd = O at *
  generalize isO p.kd = I at *
  generalize lfK p = K at *
  clear hf h0
  unfold Pt.v at *
  have HT := hide hT
  clear hT
  go_enter Tryz.func110, Tryz.ntmps110
  go_wp2_with fail
  refine (unhide LK _ ((((unhide HT).alloc _).alloc _).alloc _ |>.alloc _)).mono ?_
  rintro e w1 ⟨rfl, hb⟩
  have hbx := sh_box hb
  obtain ⟨c0, c1⟩ := hbx.cells2
  have z0 := hbx.froz 0
  have z1 := hbx.froz 1
  have HE : Hid (CBox (w.heap.size + 3) #[.int .i64 K, .int .i64 1] 141 ((w1.setCell ⟨w.heap.size + 3, 0, none⟩ (.int .i64 K)).setCell ⟨w.heap.size + 3, 1, none⟩ (.int .i64 1)) ∧ Below w.heap.size w ((w1.setCell ⟨w.heap.size + 3, 0, none⟩ (.int .i64 K)).setCell ⟨w.heap.size + 3, 1, none⟩ (.int .i64 1))) := hide ⟨(hbx.set 0 _).set 1 _, ((sh_below hb).setCell (p := ⟨w.heap.size + 3, 0, none⟩) (by show w.heap.size ≤ w.heap.size + 3; omega) _).setCell (p := ⟨w.heap.size + 3, 1, none⟩) (by show w.heap.size ≤ w.heap.size + 3; omega) _⟩
  clear hb hbx
  go_wp2
  obtain ⟨hx, hy⟩ := unhide HE
  exact bodyPost_ret (results_cell_row Tryz.results110 _ _ (w.heap.size + 3) 141 _ (0, 0) _ rfl hx Tryz.underlying141 rfl info_shape) rfl ⟨rfl, hy⟩
theorem sh_at (w : World) (A B C D X : Obj) : (((((w.alloc A).alloc B).alloc C).alloc X).alloc D).heap[w.heap.size + 1 + 1 + 1]? = some X := by
  rw [Below.heap_alloc _ _ _ (by simp)]
  have := heap_alloc_new (((w.alloc A).alloc B).alloc C) X
  rwa [show (((w.alloc A).alloc B).alloc C).heap.size = w.heap.size + 1 + 1 + 1 by simp] at this
theorem sh_all (w : World) (A B C D X : Obj) : Below w.heap.size w (((((w.alloc A).alloc B).alloc C).alloc X).alloc D) :=
  (((((Below.refl _ _).alloc (Nat.le_refl _) _).alloc (by simp) _).alloc (by simp; omega) _).alloc (by simp; omega) _).alloc (by simp; omega) _
theorem sh_left {w W : World} {A C : Obj} {o0 o1 o2 o3 o4 r0 r1 s0 s1 : Value} {t t' t'' : TypeId} (hk : Kp [] (((((w.alloc A).alloc (.cells #[o0, o1, o2, o3, o4] t)).alloc C).alloc (.cells #[r0, r1] t')).alloc (.cells #[s0, s1] t'')) W) :
    W.cell? ⟨w.heap.size + 1, 3, none⟩ = some o3 ∧ W.cell? ⟨w.heap.size + 1 + 1 + 1, 0, none⟩ = some r0 ∧ W.cell? ⟨w.heap.size + 1 + 1 + 1, 1, none⟩ = some r1 ∧ W.cell? ⟨w.heap.size + 1 + 1 + 1 + 1, 0, none⟩ = some s0 ∧ W.cell? ⟨w.heap.size + 1 + 1 + 1 + 1, 1, none⟩ = some s1 ∧ (∀ i, W.frozen? ⟨w.heap.size + 1 + 1 + 1, i, none⟩ = false) ∧ (∀ i, W.frozen? ⟨w.heap.size + 1 + 1 + 1 + 1, i, none⟩ = false) ∧ w.heap.size + 1 + 1 + 1 + 1 < W.heap.size ∧ Hid (CBox (w.heap.size + 1 + 1 + 1) #[r0, r1] t' W ∧ CBox (w.heap.size + 1 + 1 + 1 + 1) #[s0, s1] t'' W ∧ Below w.heap.size w W) := by
  have hb := hk.below (Nat.le_refl _) (by simp)
  have h1 : CBox (w.heap.size + 1) #[o0, o1, o2, o3, o4] t W := by
    unfold CBox
    rw [hb.block _ (by simp), Below.heap_alloc _ _ _ (by simp), Below.heap_alloc _ _ _ (by simp), Below.heap_alloc _ _ _ (by simp)]
    have := heap_alloc_new (w.alloc A) (.cells #[o0, o1, o2, o3, o4] t)
    rwa [show (w.alloc A).heap.size = w.heap.size + 1 by simp] at this
  have h2 : CBox (w.heap.size + 1 + 1 + 1) #[r0, r1] t' W := by
    unfold CBox
    rw [hb.block _ (by simp)]
    exact sh_at w A _ C _ _
  have h3 : CBox (w.heap.size + 1 + 1 + 1 + 1) #[s0, s1] t'' W := by
    unfold CBox
    rw [hb.block _ (by simp)]
    have := heap_alloc_new ((((w.alloc A).alloc (.cells #[o0, o1, o2, o3, o4] t)).alloc C).alloc (.cells #[r0, r1] t')) (.cells #[s0, s1] t'')
    rwa [show ((((w.alloc A).alloc (.cells #[o0, o1, o2, o3, o4] t)).alloc C).alloc (.cells #[r0, r1] t')).heap.size = w.heap.size + 1 + 1 + 1 + 1 by simp] at this
  refine ⟨h1.cell rfl, h2.cell rfl, h2.cell rfl, h3.cell rfl, h3.cell rfl, h2.froz, h3.froz, ?_, hide ⟨h2, h3, (sh_all w _ _ _ _ _).trans (hb.mono (by simp; omega))⟩⟩
  have := hk.size
  simp at this
  omega
theorem sh_end2 {w W : World} {r0 r1 s0 s1 : Value} {t t' : TypeId} (h : CBox (w.heap.size + 1 + 1 + 1) #[r0, r1] t W ∧ CBox (w.heap.size + 1 + 1 + 1 + 1) #[s0, s1] t' W ∧ Below w.heap.size w W) (x y : Int) :
    CBox (w.heap.size + 1 + 1 + 1) #[.int .i64 x, .int .i64 y] t ((W.setCell ⟨w.heap.size + 1 + 1 + 1, 0, none⟩ (.int .i64 x)).setCell ⟨w.heap.size + 1 + 1 + 1, 1, none⟩ (.int .i64 y)) ∧ Below w.heap.size w ((W.setCell ⟨w.heap.size + 1 + 1 + 1, 0, none⟩ (.int .i64 x)).setCell ⟨w.heap.size + 1 + 1 + 1, 1, none⟩ (.int .i64 y)) :=
  ⟨(h.1.set 0 _).set 1 _, (h.2.2.setCell (p := ⟨w.heap.size + 1 + 1 + 1, 0, none⟩) (by show w.heap.size ≤ w.heap.size + 1 + 1 + 1; omega) _).setCell (p := ⟨w.heap.size + 1 + 1 + 1, 1, none⟩) (by show w.heap.size ≤ w.heap.size + 1 + 1 + 1; omega) _⟩
theorem sh_end1 {w W : World} {r0 r1 s0 s1 : Value} {t t' : TypeId} (h : CBox (w.heap.size + 1 + 1 + 1) #[r0, r1] t W ∧ CBox (w.heap.size + 1 + 1 + 1 + 1) #[s0, s1] t' W ∧ Below w.heap.size w W) (z x y : Int) :
    CBox (w.heap.size + 1 + 1 + 1) #[.int .i64 x, .int .i64 y] t (((W.setCell ⟨w.heap.size + 1 + 1 + 1 + 1, 0, none⟩ (.int .i64 z)).setCell ⟨w.heap.size + 1 + 1 + 1, 0, none⟩ (.int .i64 x)).setCell ⟨w.heap.size + 1 + 1 + 1, 1, none⟩ (.int .i64 y)) ∧ Below w.heap.size w (((W.setCell ⟨w.heap.size + 1 + 1 + 1 + 1, 0, none⟩ (.int .i64 z)).setCell ⟨w.heap.size + 1 + 1 + 1, 0, none⟩ (.int .i64 x)).setCell ⟨w.heap.size + 1 + 1 + 1, 1, none⟩ (.int .i64 y)) :=
  sh_end2 (W := W.setCell ⟨w.heap.size + 1 + 1 + 1 + 1, 0, none⟩ (.int .i64 z)) ⟨h.1.kp (Kp.set _ _ _ _) (by simp), h.2.1.set 0 _, h.2.2.setCell (p := ⟨w.heap.size + 1 + 1 + 1 + 1, 0, none⟩) (by show w.heap.size ≤ w.heap.size + 1 + 1 + 1 + 1; omega) _⟩ x y
set_option maxHeartbeats 2000000 in
set_option maxRecDepth 100000 in
theorem shapeOf_op (p : Pt) (a b : Sh) (w : World) (h4 : 4 ≤ p.kd) (h13 : p.kd ≤ 13) (ha : a.ok) (hb : b.ok) (hz : p.kd = 13 → b = ⟨0, 0⟩) : Calls Tryz.prog 110 #[p.v, .agg (rowC p.kd), .agg #[.int .i64 a.kd, .int .i64 a.dp, .int .i64 b.kd, .int .i64 b.dp]] w fun e w' => e = .returned (.agg #[.int .i64 (if bareP p then opK p.kd a.kd b.kd else 0), .int .i64 (1 + max a.dp b.dp)]) ∧ Below w.heap.size w w' := by
  have FT := hide (fun W => fits_any (txt (sgO p.kd)) (fnO p.kd) p.kd a.kd b.kd W h4 h13 ha.1.1 ha.1.2 (fun e => by rw [hz e]))
  have q := fun W => eqP 9998 p (opP p.kd) W
  rw [eqPk] at q
  rw [opK_fit]
  have hone := fnO_one p.kd
  have hs0 : ((sds p.kd : Nat) : Int) ≠ 0 := by
    unfold sds
    split
    · omega
    · rw [if_pos (by omega)]; omega
  unfold rowC
  generalize fnO p.kd = F at *
  generalize txt (sgO p.kd) = S at *
  generalize ofO p.kd = O at *
  generalize isO p.kd = I at *
  generalize sds p.kd = N at *
  generalize fitB p.kd a.kd b.kd = fb at *
  generalize bareP p = bp at *
  obtain ⟨ak, ad⟩ := a
  obtain ⟨bk, bd⟩ := b
  obtain ⟨_, ha1, ha2⟩ := ha
  obtain ⟨_, hb1, hb2⟩ := hb
  clear hz h4 h13
  obtain ⟨kd, n, s, st, fl⟩ := p
  unfold Pt.v opP txt at *
  dsimp only at *
  have g0 : ((N : Int) == 0) = false := beq_eq_false_iff_ne.2 hs0
  clear hs0
  cases bp with
  | false =>
    go_enter Tryz.func110, Tryz.ntmps110
    go_wp2
    all_goals exact bodyPost_ret (results_cell_row Tryz.results110 _ _ (w.heap.size + 1 + 1 + 1) 141 _ (0, 0) _ rfl (sh_at w _ _ _ _ _) Tryz.underlying141 rfl info_shape) rfl ⟨rfl, sh_all w _ _ _ _ _⟩
  | true =>
    have HL := hide (fun W1 (hk : Kp [] (((((w.alloc (.cells #[.int .i64 kd, .int .i64 n, .string s, .string st, .int .i64 fl] 87)).alloc (.cells #[.string S, .int .i64 (N : Int), .int .u64 O, .int .i64 I, F] 167)).alloc (.cells #[.int .i64 ak, .int .i64 ad, .int .i64 bk, .int .i64 bd] 176)).alloc (.cells #[.int .i64 0, .int .i64 0] 141)).alloc (.cells #[.int .i64 0, .int .i64 (1 + max ad bd)] 141)) W1) => sh_left hk)
    go_enter Tryz.func110, Tryz.ntmps110
    go_wp2_with (go_at_call 126; refine (unhide FT _).mono ?_; rintro e w1 ⟨rfl, hk⟩; obtain ⟨i3, b0, b1, e0, e1, f0, f1, g0', HB⟩ := unhide HL w1 hk; clear hk HL FT)
    all_goals first
      | exact bodyPost_ret (results_cell_row Tryz.results110 _ _ (w.heap.size + 1 + 1 + 1) 141 _ (0, 0) _ rfl (sh_end1 (unhide HB) I I (1 + max ad bd)).1 Tryz.underlying141 rfl info_shape) rfl ⟨rfl, (sh_end1 (unhide HB) I I (1 + max ad bd)).2⟩
      | exact bodyPost_ret (results_cell_row Tryz.results110 _ _ (w.heap.size + 1 + 1 + 1) 141 _ (0, 0) _ rfl (sh_end2 (unhide HB) 0 (1 + max ad bd)).1 Tryz.underlying141 rfl info_shape) rfl ⟨rfl, (sh_end2 (unhide HB) 0 (1 + max ad bd)).2⟩
/-- The kind and the depth of a part and its sides. -/
theorem shapeOf_any (p : Pt) (a b : Sh) (w : World) (hT : TbE w) (hf : p.fit) (ha : a.ok) (hb : b.ok) (hz : sds p.kd = 1 → b = ⟨0, 0⟩) : Calls Tryz.prog 110 #[p.v, .agg (rowC p.kd), .agg #[.int .i64 a.kd, .int .i64 a.dp, .int .i64 b.kd, .int .i64 b.dp]] w fun e w' => e = .returned (.agg #[.int .i64 (shp p (takeS (sds p.kd) a b)).kd, .int .i64 (shp p (takeS (sds p.kd) a b)).dp]) ∧ Below w.heap.size w w' := by
  by_cases h0 : sds p.kd = 0
  · rw [h0]
    exact shapeOf_leaf p a b w hT hf h0
  · rw [ck_hit h0 hz]
    have hk : 4 ≤ p.kd ∧ p.kd ≤ 13 := by
      have := sds_le p.kd
      rcases (show sds p.kd = 1 ∨ sds p.kd = 2 by omega) with e | e
      · have := sds_one e; omega
      · have := sds_two e; omega
    exact shapeOf_op p a b w hk.1 hk.2 ha hb (fun e => hz (by rw [e]; rfl))
end Go.Proofs.YtgcmfcidmmjfiaaGreatDoor
