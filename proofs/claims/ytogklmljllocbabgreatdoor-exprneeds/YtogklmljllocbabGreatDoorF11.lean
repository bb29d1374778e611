/-
  The table of operations: how it lies, a row of it, which kinds an operation fits.
  Which kinds an operation fits.
-/
import Derived.Test.YtogklmljllocbabGreatDoorF10
import Derived.Deep.WholeRow
import Derived.Laws.EntriesVeiled
namespace Go.Proofs.YtogklmljllocbabGreatDoor
open Go.RowKit

/-- The table of operations. -/
def opsV : Array Value := #[.string ⟨#[]⟩, .int .i64 0, .int .u64 0, .int .i64 0, .nilFunc, .string ⟨#[]⟩, .int .i64 0, .int .u64 0, .int .i64 0, .nilFunc, .string ⟨#[]⟩, .int .i64 0, .int .u64 0, .int .i64 0, .nilFunc, .string ⟨#[]⟩, .int .i64 0, .int .u64 0, .int .i64 0, .nilFunc, .string ⟨#[43]⟩, .int .i64 2, .int .u64 2, .int .i64 1, .func (.func 155) #[] #[], .string ⟨#[45]⟩, .int .i64 2, .int .u64 2, .int .i64 1, .func (.func 156) #[] #[], .string ⟨#[42]⟩, .int .i64 2, .int .u64 2, .int .i64 1, .func (.func 157) #[] #[], .string ⟨#[60]⟩, .int .i64 2, .int .u64 2, .int .i64 3, .func (.func 158) #[] #[], .string ⟨#[60, 61]⟩, .int .i64 2, .int .u64 2, .int .i64 3, .func (.func 159) #[] #[], .string ⟨#[61, 61]⟩, .int .i64 2, .int .u64 6, .int .i64 3, .func (.func 160) #[] #[], .string ⟨#[33, 61]⟩, .int .i64 2, .int .u64 6, .int .i64 3, .func (.func 161) #[] #[], .string ⟨#[97, 110, 100]⟩, .int .i64 2, .int .u64 8, .int .i64 3, .func (.func 162) #[] #[], .string ⟨#[111, 114]⟩, .int .i64 2, .int .u64 8, .int .i64 3, .func (.func 163) #[] #[], .string ⟨#[110, 111, 116]⟩, .int .i64 1, .int .u64 8, .int .i64 3, .func (.func 164) #[] #[]]
theorem opsV_size : opsV.size = 70 := rfl
theorem opsV_one : opsV.all (·.oneCell') = true := by kernel_rfl
theorem info_tab : (Tryz.prog.info? 152).map (·.size) = some 70 := by kernel_rfl
set_option maxHeartbeats 2000000 in
set_option maxRecDepth 100000 in
theorem operations_any (w : World) : Calls Tryz.prog 87 #[] w fun e w' => e = .returned (.agg opsV) ∧ Kp [] w w' := by
  go_enter Tryz.func87, Tryz.ntmps87
  go_wp2
  generalize hX : Array.setIfInBounds _ 69 _ = X
  obtain rfl : X = opsV := hX.symm.trans (by kernel_rfl)
  clear hX
  generalize hY : List.set _ 69 _ = Y
  obtain rfl : Y = opsV.toList := hY.symm.trans (by kernel_rfl)
  clear hY
  rw [run_storeCells_new w _ _ opsV info_tab (by kernel_rfl) opsV_one]
  simp only [Result.andThen_ok]
  rw [Oper.upon_skip]
  go_wp2
  exact bodyPost_ret (results_cell_row Tryz.results87 _ _ w.heap.size 152 opsV (0, 0) _ rfl (heap_alloc_new w _) Tryz.underlying152 rfl info_tab) rfl ⟨rfl, Kp.alloc _ _⟩
/-! A row of the table. -/
def ofO (k : Int) : Int := if k < 4 then 0 else if k ≤ 8 then 2 else if k ≤ 10 then 6 else if k ≤ 13 then 8 else 0
def isO (k : Int) : Int := if k < 4 then 0 else if k ≤ 6 then 1 else if k ≤ 13 then 3 else 0
def fnO (k : Int) : Value := if k = 4 then .func (.func 155) #[] #[] else if k = 5 then .func (.func 156) #[] #[] else if k = 6 then .func (.func 157) #[] #[] else if k = 7 then .func (.func 158) #[] #[] else if k = 8 then .func (.func 159) #[] #[] else if k = 9 then .func (.func 160) #[] #[] else if k = 10 then .func (.func 161) #[] #[] else if k = 11 then .func (.func 162) #[] #[] else if k = 12 then .func (.func 163) #[] #[] else if k = 13 then .func (.func 164) #[] #[] else .nilFunc
def rowC (k : Int) : Array Value := #[.string (txt (sgO k)), .int .i64 (sds k : Nat), .int .u64 (ofO k), .int .i64 (isO k), fnO k]
theorem opsV_row : ∀ k : Fin 14, opsV[k.val * 5]? = some (.string (txt (sgO (k.val : Int)))) ∧ opsV[k.val * 5 + 1]? = some (.int .i64 (sds (k.val : Int) : Nat)) ∧ opsV[k.val * 5 + 2]? = some (.int .u64 (ofO (k.val : Int))) ∧ opsV[k.val * 5 + 3]? = some (.int .i64 (isO (k.val : Int))) ∧ opsV[k.val * 5 + 4]? = some (fnO (k.val : Int))
  | ⟨0, _⟩ => ⟨rfl, rfl, rfl, rfl, rfl⟩
  | ⟨1, _⟩ => ⟨rfl, rfl, rfl, rfl, rfl⟩
  | ⟨2, _⟩ => ⟨rfl, rfl, rfl, rfl, rfl⟩
  | ⟨3, _⟩ => ⟨rfl, rfl, rfl, rfl, rfl⟩
  | ⟨4, _⟩ => ⟨rfl, rfl, rfl, rfl, rfl⟩
  | ⟨5, _⟩ => ⟨rfl, rfl, rfl, rfl, rfl⟩
  | ⟨6, _⟩ => ⟨rfl, rfl, rfl, rfl, rfl⟩
  | ⟨7, _⟩ => ⟨rfl, rfl, rfl, rfl, rfl⟩
  | ⟨8, _⟩ => ⟨rfl, rfl, rfl, rfl, rfl⟩
  | ⟨9, _⟩ => ⟨rfl, rfl, rfl, rfl, rfl⟩
  | ⟨10, _⟩ => ⟨rfl, rfl, rfl, rfl, rfl⟩
  | ⟨11, _⟩ => ⟨rfl, rfl, rfl, rfl, rfl⟩
  | ⟨12, _⟩ => ⟨rfl, rfl, rfl, rfl, rfl⟩
  | ⟨13, _⟩ => ⟨rfl, rfl, rfl, rfl, rfl⟩
theorem rowC_none {k : Int} (h : k < 0 ∨ 14 ≤ k) : rowC k = #[.string ⟨#[]⟩, .int .i64 0, .int .u64 0, .int .i64 0, .nilFunc] := by
  have e1 : sgO k = [] := by unfold sgO; repeat rw [if_neg (by omega)]
  have e2 : sds k = 0 := by unfold sds; rw [if_neg (by omega), if_neg (by omega)]
  have e3 : ofO k = 0 := by unfold ofO; split; rfl; rw [if_neg (by omega), if_neg (by omega), if_neg (by omega)]
  have e4 : isO k = 0 := by unfold isO; split; rfl; rw [if_neg (by omega), if_neg (by omega)]
  have e5 : fnO k = .nilFunc := by unfold fnO; repeat rw [if_neg (by omega)]
  unfold rowC
  rw [e1, e2, e3, e4, e5]
  rfl
theorem fnO_one (k : Int) : (fnO k).oneCell' = true := by
  unfold fnO
  repeat' split
  all_goals rfl
theorem info_op : (Tryz.prog.info? 150).map (·.size) = some 5 := by kernel_rfl
theorem row_end {w : World} {S : ByteArray} {N O I : Int} {F : Value} {tmps : Array Value} (ht : tmps.getD 4 undef = .pointer (some ⟨w.heap.size, 0, none⟩)) : (results Tryz.f89 tmps).run Tryz.prog (w.alloc (.cells #[.string S, .int .i64 N, .int .u64 O, .int .i64 I, F] 150)) = .ok (.agg #[.string S, .int .i64 N, .int .u64 O, .int .i64 I, F]) (w.alloc (.cells #[.string S, .int .i64 N, .int .u64 O, .int .i64 I, F] 150)) :=
  results_cell_row Tryz.results89 _ _ w.heap.size 150 _ (0, 0) _ ht (heap_alloc_new w _) Tryz.underlying150 rfl info_op
set_option maxHeartbeats 2000000 in
set_option maxRecDepth 100000 in
theorem row_any (g : Nat) (k : Int) (w : World) (hg : CBox g opsV 152 w) : Calls Tryz.prog 89 #[.pointer (some ⟨g, 0, none⟩), .int .i64 k] w fun e w' => e = .returned (.agg (rowC k)) ∧ Kp [] w w' := by
  by_cases h0 : k < 0
  · rw [rowC_none (Or.inl h0)]
    clear hg
    go_enter Tryz.func89, Tryz.ntmps89
    go_wp2
    exact bodyPost_ret (v := .agg #[.string ⟨#[]⟩, .int .i64 0, .int .u64 0, .int .i64 0, .nilFunc]) (row_end (w := w) rfl) rfl ⟨rfl, Kp.alloc _ _⟩
  · by_cases h1 : 14 ≤ k
    · rw [rowC_none (Or.inr h1)]
      clear hg
      go_enter Tryz.func89, Tryz.ntmps89
      go_wp2
      exact bodyPost_ret (v := .agg #[.string ⟨#[]⟩, .int .i64 0, .int .u64 0, .int .i64 0, .nilFunc]) (row_end (w := w) rfl) rfl ⟨rfl, Kp.alloc _ _⟩
    · obtain ⟨n, rfl⟩ : ∃ n : Nat, k = (n : Int) := ⟨k.toNat, by omega⟩
      obtain ⟨c0, c1, c2, c3, c4⟩ := opsV_row ⟨n, by omega⟩
      have hg2 := hg.kp (Kp.alloc w (.cells #[.string ⟨#[]⟩, .int .i64 0, .int .u64 0, .int .i64 0, .nilFunc] 150)) (by simp)
      have d0 := hg2.cell c0
      have d1 := hg2.cell c1
      have d2 := hg2.cell c2
      have d3 := hg2.cell c3
      have d4 := hg2.cell c4
      have hone := fnO_one (n : Int)
      unfold rowC
      generalize fnO (n : Int) = F at *
      generalize txt (sgO (n : Int)) = S at *
      generalize sds (n : Int) = N at *
      generalize ofO (n : Int) = O at *
      generalize isO (n : Int) = I at *
      have st : ∀ W a m, (store a F m).run Tryz.prog W = stored Tryz.prog W a F m := fun W a m => run_store Tryz.prog W a F m hone
      clear hg hg2 c0 c1 c2 c3 c4 hone
      dsimp only at *
      go_enter Tryz.func89, Tryz.ntmps89
      go_wp2
      exact bodyPost_ret (v := .agg #[.string S, .int .i64 (N : Int), .int .u64 O, .int .i64 I, F]) (row_end (w := w) rfl) rfl ⟨rfl, Kp.alloc _ _⟩
end Go.Proofs.YtogklmljllocbabGreatDoor
namespace Go.Proofs.YtogklmljllocbabGreatDoor
open Go.RowKit

/-! Which kinds an operation fits. -/
def fitB (k a b : Int) : Bool := decide (opK k a b ≠ 0)
theorem opK_fit (k a b : Int) : opK k a b = if fitB k a b then isO k else 0 := by
  unfold fitB
  by_cases h : opK k a b = 0
  · simp [h]
  · simp only [ne_eq, h, not_false_eq_true, decide_true, if_true]
    unfold opK at h ⊢
    unfold isO
    repeat' split at h
    all_goals first | (exact absurd rfl h) | skip
    all_goals (repeat' split)
    all_goals first | rfl | omega
theorem fit_ne {k a b : Int} (h : a ≠ b) (hk : k ≠ 13) : fitB k a b = false := by
  unfold fitB opK
  repeat' split
  all_goals first | rfl | (exfalso; omega)
theorem bit_facts : bits .and .u64 0 1 = 0 ∧ bits .and .u64 1 1 = 1 ∧ bits .and .u64 2 1 = 0 ∧ bits .and .u64 3 1 = 1 ∧ bits .and .u64 4 1 = 0 ∧ bits .and .u64 6 1 = 0 ∧ bits .and .u64 8 1 = 0 := by decide
set_option maxHeartbeats 2000000 in
set_option maxRecDepth 100000 in
theorem fits_4 (S : ByteArray) (F : Value) (a b : Int) (w : World) (ha : 0 ≤ a) (ha2 : a ≤ 3) : Calls Tryz.prog 154 #[.agg #[.string S, .int .i64 2, .int .u64 2, .int .i64 1, F], .int .i64 a, .int .i64 b] w fun e w' => e = .returned (.bool (fitB 4 a b)) ∧ Kp [] w w' := by
  obtain ⟨t0, t1, t2, t3, t4, t6, t8⟩ := bit_facts
  by_cases hab : a = b
  · subst hab
    rcases (show a = 0 ∨ a = 1 ∨ a = 2 ∨ a = 3 by omega) with rfl | rfl | rfl | rfl
    all_goals (
      go_enter Tryz.func154, Tryz.ntmps154
      go_wp2
      go_ret
      exact ⟨rfl, Kp.alloc _ _⟩)
  · rw [fit_ne hab (by decide)]
    have q1 : (a == b) = false := beq_eq_false_iff_ne.2 hab
    rcases (show a = 0 ∨ a = 1 ∨ a = 2 ∨ a = 3 by omega) with rfl | rfl | rfl | rfl
    all_goals (
      go_enter Tryz.func154, Tryz.ntmps154
      go_wp2
      go_ret
      exact ⟨rfl, Kp.alloc _ _⟩)
set_option maxHeartbeats 2000000 in
set_option maxRecDepth 100000 in
theorem fits_5 (S : ByteArray) (F : Value) (a b : Int) (w : World) (ha : 0 ≤ a) (ha2 : a ≤ 3) : Calls Tryz.prog 154 #[.agg #[.string S, .int .i64 2, .int .u64 2, .int .i64 1, F], .int .i64 a, .int .i64 b] w fun e w' => e = .returned (.bool (fitB 5 a b)) ∧ Kp [] w w' := by
  obtain ⟨t0, t1, t2, t3, t4, t6, t8⟩ := bit_facts
  by_cases hab : a = b
  · subst hab
    rcases (show a = 0 ∨ a = 1 ∨ a = 2 ∨ a = 3 by omega) with rfl | rfl | rfl | rfl
    all_goals (
      go_enter Tryz.func154, Tryz.ntmps154
      go_wp2
      go_ret
      exact ⟨rfl, Kp.alloc _ _⟩)
  · rw [fit_ne hab (by decide)]
    have q1 : (a == b) = false := beq_eq_false_iff_ne.2 hab
    rcases (show a = 0 ∨ a = 1 ∨ a = 2 ∨ a = 3 by omega) with rfl | rfl | rfl | rfl
    all_goals (
      go_enter Tryz.func154, Tryz.ntmps154
      go_wp2
      go_ret
      exact ⟨rfl, Kp.alloc _ _⟩)
set_option maxHeartbeats 2000000 in
set_option maxRecDepth 100000 in
theorem fits_6 (S : ByteArray) (F : Value) (a b : Int) (w : World) (ha : 0 ≤ a) (ha2 : a ≤ 3) : Calls Tryz.prog 154 #[.agg #[.string S, .int .i64 2, .int .u64 2, .int .i64 1, F], .int .i64 a, .int .i64 b] w fun e w' => e = .returned (.bool (fitB 6 a b)) ∧ Kp [] w w' := by
  obtain ⟨t0, t1, t2, t3, t4, t6, t8⟩ := bit_facts
  by_cases hab : a = b
  · subst hab
    rcases (show a = 0 ∨ a = 1 ∨ a = 2 ∨ a = 3 by omega) with rfl | rfl | rfl | rfl
    all_goals (
      go_enter Tryz.func154, Tryz.ntmps154
      go_wp2
      go_ret
      exact ⟨rfl, Kp.alloc _ _⟩)
  · rw [fit_ne hab (by decide)]
    have q1 : (a == b) = false := beq_eq_false_iff_ne.2 hab
    rcases (show a = 0 ∨ a = 1 ∨ a = 2 ∨ a = 3 by omega) with rfl | rfl | rfl | rfl
    all_goals (
      go_enter Tryz.func154, Tryz.ntmps154
      go_wp2
      go_ret
      exact ⟨rfl, Kp.alloc _ _⟩)
set_option maxHeartbeats 2000000 in
set_option maxRecDepth 100000 in
theorem fits_7 (S : ByteArray) (F : Value) (a b : Int) (w : World) (ha : 0 ≤ a) (ha2 : a ≤ 3) : Calls Tryz.prog 154 #[.agg #[.string S, .int .i64 2, .int .u64 2, .int .i64 3, F], .int .i64 a, .int .i64 b] w fun e w' => e = .returned (.bool (fitB 7 a b)) ∧ Kp [] w w' := by
  obtain ⟨t0, t1, t2, t3, t4, t6, t8⟩ := bit_facts
  by_cases hab : a = b
  · subst hab
    rcases (show a = 0 ∨ a = 1 ∨ a = 2 ∨ a = 3 by omega) with rfl | rfl | rfl | rfl
    all_goals (
      go_enter Tryz.func154, Tryz.ntmps154
      go_wp2
      go_ret
      exact ⟨rfl, Kp.alloc _ _⟩)
  · rw [fit_ne hab (by decide)]
    have q1 : (a == b) = false := beq_eq_false_iff_ne.2 hab
    rcases (show a = 0 ∨ a = 1 ∨ a = 2 ∨ a = 3 by omega) with rfl | rfl | rfl | rfl
    all_goals (
      go_enter Tryz.func154, Tryz.ntmps154
      go_wp2
      go_ret
      exact ⟨rfl, Kp.alloc _ _⟩)
set_option maxHeartbeats 2000000 in
set_option maxRecDepth 100000 in
theorem fits_8 (S : ByteArray) (F : Value) (a b : Int) (w : World) (ha : 0 ≤ a) (ha2 : a ≤ 3) : Calls Tryz.prog 154 #[.agg #[.string S, .int .i64 2, .int .u64 2, .int .i64 3, F], .int .i64 a, .int .i64 b] w fun e w' => e = .returned (.bool (fitB 8 a b)) ∧ Kp [] w w' := by
  obtain ⟨t0, t1, t2, t3, t4, t6, t8⟩ := bit_facts
  by_cases hab : a = b
  · subst hab
    rcases (show a = 0 ∨ a = 1 ∨ a = 2 ∨ a = 3 by omega) with rfl | rfl | rfl | rfl
    all_goals (
      go_enter Tryz.func154, Tryz.ntmps154
      go_wp2
      go_ret
      exact ⟨rfl, Kp.alloc _ _⟩)
  · rw [fit_ne hab (by decide)]
    have q1 : (a == b) = false := beq_eq_false_iff_ne.2 hab
    rcases (show a = 0 ∨ a = 1 ∨ a = 2 ∨ a = 3 by omega) with rfl | rfl | rfl | rfl
    all_goals (
      go_enter Tryz.func154, Tryz.ntmps154
      go_wp2
      go_ret
      exact ⟨rfl, Kp.alloc _ _⟩)
set_option maxHeartbeats 2000000 in
set_option maxRecDepth 100000 in
theorem fits_9 (S : ByteArray) (F : Value) (a b : Int) (w : World) (ha : 0 ≤ a) (ha2 : a ≤ 3) : Calls Tryz.prog 154 #[.agg #[.string S, .int .i64 2, .int .u64 6, .int .i64 3, F], .int .i64 a, .int .i64 b] w fun e w' => e = .returned (.bool (fitB 9 a b)) ∧ Kp [] w w' := by
  obtain ⟨t0, t1, t2, t3, t4, t6, t8⟩ := bit_facts
  by_cases hab : a = b
  · subst hab
    rcases (show a = 0 ∨ a = 1 ∨ a = 2 ∨ a = 3 by omega) with rfl | rfl | rfl | rfl
    all_goals (
      go_enter Tryz.func154, Tryz.ntmps154
      go_wp2
      go_ret
      exact ⟨rfl, Kp.alloc _ _⟩)
  · rw [fit_ne hab (by decide)]
    have q1 : (a == b) = false := beq_eq_false_iff_ne.2 hab
    rcases (show a = 0 ∨ a = 1 ∨ a = 2 ∨ a = 3 by omega) with rfl | rfl | rfl | rfl
    all_goals (
      go_enter Tryz.func154, Tryz.ntmps154
      go_wp2
      go_ret
      exact ⟨rfl, Kp.alloc _ _⟩)
set_option maxHeartbeats 2000000 in
set_option maxRecDepth 100000 in
theorem fits_10 (S : ByteArray) (F : Value) (a b : Int) (w : World) (ha : 0 ≤ a) (ha2 : a ≤ 3) : Calls Tryz.prog 154 #[.agg #[.string S, .int .i64 2, .int .u64 6, .int .i64 3, F], .int .i64 a, .int .i64 b] w fun e w' => e = .returned (.bool (fitB 10 a b)) ∧ Kp [] w w' := by
  obtain ⟨t0, t1, t2, t3, t4, t6, t8⟩ := bit_facts
  by_cases hab : a = b
  · subst hab
    rcases (show a = 0 ∨ a = 1 ∨ a = 2 ∨ a = 3 by omega) with rfl | rfl | rfl | rfl
    all_goals (
      go_enter Tryz.func154, Tryz.ntmps154
      go_wp2
      go_ret
      exact ⟨rfl, Kp.alloc _ _⟩)
  · rw [fit_ne hab (by decide)]
    have q1 : (a == b) = false := beq_eq_false_iff_ne.2 hab
    rcases (show a = 0 ∨ a = 1 ∨ a = 2 ∨ a = 3 by omega) with rfl | rfl | rfl | rfl
    all_goals (
      go_enter Tryz.func154, Tryz.ntmps154
      go_wp2
      go_ret
      exact ⟨rfl, Kp.alloc _ _⟩)
set_option maxHeartbeats 2000000 in
set_option maxRecDepth 100000 in
theorem fits_11 (S : ByteArray) (F : Value) (a b : Int) (w : World) (ha : 0 ≤ a) (ha2 : a ≤ 3) : Calls Tryz.prog 154 #[.agg #[.string S, .int .i64 2, .int .u64 8, .int .i64 3, F], .int .i64 a, .int .i64 b] w fun e w' => e = .returned (.bool (fitB 11 a b)) ∧ Kp [] w w' := by
  obtain ⟨t0, t1, t2, t3, t4, t6, t8⟩ := bit_facts
  by_cases hab : a = b
  · subst hab
    rcases (show a = 0 ∨ a = 1 ∨ a = 2 ∨ a = 3 by omega) with rfl | rfl | rfl | rfl
    all_goals (
      go_enter Tryz.func154, Tryz.ntmps154
      go_wp2
      go_ret
      exact ⟨rfl, Kp.alloc _ _⟩)
  · rw [fit_ne hab (by decide)]
    have q1 : (a == b) = false := beq_eq_false_iff_ne.2 hab
    rcases (show a = 0 ∨ a = 1 ∨ a = 2 ∨ a = 3 by omega) with rfl | rfl | rfl | rfl
    all_goals (
      go_enter Tryz.func154, Tryz.ntmps154
      go_wp2
      go_ret
      exact ⟨rfl, Kp.alloc _ _⟩)
set_option maxHeartbeats 2000000 in
set_option maxRecDepth 100000 in
theorem fits_12 (S : ByteArray) (F : Value) (a b : Int) (w : World) (ha : 0 ≤ a) (ha2 : a ≤ 3) : Calls Tryz.prog 154 #[.agg #[.string S, .int .i64 2, .int .u64 8, .int .i64 3, F], .int .i64 a, .int .i64 b] w fun e w' => e = .returned (.bool (fitB 12 a b)) ∧ Kp [] w w' := by
  obtain ⟨t0, t1, t2, t3, t4, t6, t8⟩ := bit_facts
  by_cases hab : a = b
  · subst hab
    rcases (show a = 0 ∨ a = 1 ∨ a = 2 ∨ a = 3 by omega) with rfl | rfl | rfl | rfl
    all_goals (
      go_enter Tryz.func154, Tryz.ntmps154
      go_wp2
      go_ret
      exact ⟨rfl, Kp.alloc _ _⟩)
  · rw [fit_ne hab (by decide)]
    have q1 : (a == b) = false := beq_eq_false_iff_ne.2 hab
    rcases (show a = 0 ∨ a = 1 ∨ a = 2 ∨ a = 3 by omega) with rfl | rfl | rfl | rfl
    all_goals (
      go_enter Tryz.func154, Tryz.ntmps154
      go_wp2
      go_ret
      exact ⟨rfl, Kp.alloc _ _⟩)
set_option maxHeartbeats 2000000 in
set_option maxRecDepth 100000 in
theorem fits_13 (S : ByteArray) (F : Value) (a b : Int) (w : World) (ha : 0 ≤ a) (ha2 : a ≤ 3) (hb : b = 0) : Calls Tryz.prog 154 #[.agg #[.string S, .int .i64 1, .int .u64 8, .int .i64 3, F], .int .i64 a, .int .i64 b] w fun e w' => e = .returned (.bool (fitB 13 a b)) ∧ Kp [] w w' := by
  obtain ⟨t0, t1, t2, t3, t4, t6, t8⟩ := bit_facts
  subst hb
  rcases (show a = 0 ∨ a = 1 ∨ a = 2 ∨ a = 3 by omega) with rfl | rfl | rfl | rfl
  all_goals (
    go_enter Tryz.func154, Tryz.ntmps154
    go_wp2
    go_ret
    exact ⟨rfl, Kp.alloc _ _⟩)
theorem fits_any (S : ByteArray) (F : Value) (k a b : Int) (w : World) (hk : 4 ≤ k) (hk2 : k ≤ 13) (ha : 0 ≤ a) (ha2 : a ≤ 3) (hb : k = 13 → b = 0) : Calls Tryz.prog 154 #[.agg #[.string S, .int .i64 (sds k : Nat), .int .u64 (ofO k), .int .i64 (isO k), F], .int .i64 a, .int .i64 b] w fun e w' => e = .returned (.bool (fitB k a b)) ∧ Kp [] w w' := by
  rcases (show k = 4 ∨ k = 5 ∨ k = 6 ∨ k = 7 ∨ k = 8 ∨ k = 9 ∨ k = 10 ∨ k = 11 ∨ k = 12 ∨ k = 13 by omega) with rfl | rfl | rfl | rfl | rfl | rfl | rfl | rfl | rfl | rfl
  · exact fits_4 S F a b w ha ha2
  · exact fits_5 S F a b w ha ha2
  · exact fits_6 S F a b w ha ha2
  · exact fits_7 S F a b w ha ha2
  · exact fits_8 S F a b w ha ha2
  · exact fits_9 S F a b w ha ha2
  · exact fits_10 S F a b w ha ha2
  · exact fits_11 S F a b w ha ha2
  · exact fits_12 S F a b w ha ha2
  · exact fits_13 S F a b w ha ha2 (hb rfl)
end Go.Proofs.YtogklmljllocbabGreatDoor
