/-
  DiskSwap is proved: for all old and new bytes, and every fuse, keep and torn, the law DiskSwap returns true (the file has the old bytes or the new ones, whole), and its arguments read behind the call as before. No condition.
-/
import Derived.Test.YtpbmkbfcnhekoaaRows
import Derived.Test.YtpbmkbfcnhekoaaDSwp
import Derived.ProofKit
import Derived.OpenShut
import Derived.Deep.DeepHandedRow
import Derived.Lib.LaidTab
import Derived.Lib.SmallJoins
namespace Go.Proofs.Ytpbmkbfcnhekoaa
open Go.RowKit
set_option maxHeartbeats 4000000 in
set_option maxRecDepth 100000 in
theorem swap_long (a b : ByteArray) (xf xk xt : Int) (w : World) (ha : a.size ≤ 9223372036854775807) (hb : b.size ≤ 9223372036854775807) (hlong : 1000 < a.size ∨ 1000 < b.size) :
    Calls Try.prog 7 #[.string a, .string b, .agg #[.int .i64 xf, .int .i64 xk, .int .i64 xt]] w fun e w' => e = .returned (.bool true) ∧ Below w.heap.size w w' := by
  have hk0 := Kp.alloc w (.cells #[.int .i64 xf, .int .i64 xk, .int .i64 xt] 53)
  have WK := hide works_any
  have HK0 := hide hk0
  clear hk0
  by_cases h1 : 1000 < a.size
  · have g1 : (1000 : Int) < (a.size : Int) := by omega
    clear hlong h1
    go_enter Try.func7, Try.ntmps7
    go_wp2_with fail
    refine (new_own _).mono ?_
    rintro e w1 ⟨p, rfl, o1⟩
    go_wp2_with fail
    refine (unhide WK w1).mono ?_
    rintro e w2 ⟨rfl, hk2⟩
    have hfin : Below w.heap.size w w2 := (((unhide HK0).trans o1.bel (by simp)).trans hk2 (by simp)).below (Nat.le_refl _) (by simp)
    clear o1 hk2
    go_wp2
    go_ret
    exact ⟨rfl, hfin⟩
  · have g1 : ¬ ((1000 : Int) < (a.size : Int)) := by omega
    have g2 : (1000 : Int) < (b.size : Int) := by omega
    clear hlong h1
    go_enter Try.func7, Try.ntmps7
    go_wp2_with fail
    refine (new_own _).mono ?_
    rintro e w1 ⟨p, rfl, o1⟩
    go_wp2_with fail
    refine (unhide WK w1).mono ?_
    rintro e w2 ⟨rfl, hk2⟩
    have hfin : Below w.heap.size w w2 := (((unhide HK0).trans o1.bel (by simp)).trans hk2 (by simp)).below (Nat.le_refl _) (by simp)
    clear o1 hk2
    go_wp2
    go_ret
    exact ⟨rfl, hfin⟩
theorem swap_any (a b : ByteArray) (xf xk xt : Int) (w : World) (ha : a.size ≤ 9223372036854775807) (hb : b.size ≤ 9223372036854775807) (ht : xt ≤ 9223372036854775807) :
    Calls Try.prog 7 #[.string a, .string b, .agg #[.int .i64 xf, .int .i64 xk, .int .i64 xt]] w fun e w' => e = .returned (.bool true) ∧ Below w.heap.size w w' := by
  by_cases h : 1000 < a.size ∨ 1000 < b.size
  · exact swap_long a b xf xk xt w ha hb h
  · have h1 := Int.emod_nonneg xf (by decide : (6 : Int) ≠ 0)
    have h2 := Int.emod_lt_of_pos xf (by decide : (0 : Int) < 6)
    have hc : xf % 6 = 0 ∨ xf % 6 = 1 ∨ xf % 6 = 2 ∨ xf % 6 = 3 ∨ xf % 6 = 4 ∨ xf % 6 = 5 := by omega
    rcases hc with hc | hc | hc | hc | hc | hc
    · exact swap_0 a b xf xk xt w (by omega) (by omega) ht hc
    · exact swap_1 a b xf xk xt w (by omega) (by omega) ht hc
    · exact swap_2 a b xf xk xt w (by omega) (by omega) ht hc
    · exact swap_3 a b xf xk xt w (by omega) (by omega) ht hc
    · exact swap_4 a b xf xk xt w (by omega) (by omega) ht hc
    · exact swap_5 a b xf xk xt w (by omega) (by omega) ht hc
end Go.Proofs.Ytpbmkbfcnhekoaa
namespace Go.Proofs.Ytpbmkbfcnhekoaa.diskSwap
open Go.ChangeShapes Go.WideShapes Go.ChangeAt Go.RowKit Go.Joins
open Go.ChangeMaps (open_string shut_string)

theorem laidOut : laidOutB Try.prog = true := by kernel_rfl
theorem own : ownKnob Try.prog.godebug = none := by kernel_rfl
theorem cellsT : Try.prog.cellsOf 53 = 3 := by kernel_rfl
set_option maxRecDepth 100000 in
/-- What the walk gives, for every argument and every world. -/
theorem contract (H : Type) (enc : TypeId × Value → H) (W : World) (base : Nat) (args : Array Value) (ds gs : List (DataW H)) (before : List MemPlace)
    (hval : ∀ (j : Nat) t v, Try.f7.params[j]? = some t → args[j]? = some v → Value.okWide Try.prog W .any base t v)
    (hW : DataW.Whole enc Try.prog Try.f7.params.toList Rows.diskSwapSpec.vars false W args.toList ds gs before) :
    Calls Try.prog 7 args W fun e W' => ∃ v, e = .returned v ∧ Rows.diskSwapSpec.post enc Try.prog Try.f7 false true false false W args v W' := by
  have hW' := hW
  obtain ⟨p, q, hA0, hV, rfl, hfz, hnd⟩ := hW
  have hA : DataW.TrodAll enc Try.prog W 0 (fun _ => true) true Try.f7.params.toList args.toList ds p := hA0
  rw [Try.params7] at hA hval
  obtain ⟨v0, vs0, d0, ds0, p0, q0, hargs, rfl, rfl, h0, r0⟩ := trodAll_cons hA
  obtain ⟨v1, vs1, d1, ds1, p1, q1, rfl, rfl, rfl, h1, r1⟩ := trodAll_cons r0
  obtain ⟨v2, vs2, d2, ds2, p2, q2, rfl, rfl, rfl, h2, r2⟩ := trodAll_cons r1
  obtain ⟨rfl, rfl, rfl⟩ := trodAll_nil r2
  obtain rfl : args = #[v0, v1, v2] := by cases args; simp_all
  obtain ⟨rfl, rfl⟩ := trodVars_none hV
  have h2k := h2
  obtain ⟨a, rfl, rfl, rfl, ha⟩ := open_string Try.underlying9 (hval 0 9 v0 rfl rfl) h0
  obtain ⟨b, rfl, rfl, rfl, hb⟩ := open_string Try.underlying9 (hval 1 9 v1 rfl rfl) h1
  obtain ⟨x0, x1, x2, y0, y1, y2, m, rfl, rfl, rfl, g0, g1, g2⟩ := open_agg3 Try.underlying53 (by kernel_rfl) cellsT (hval 2 53 v2 rfl rfl) h2
  obtain ⟨n0, e0, _, z0⟩ := DataW.trod_int Try.underlying3 g0
  obtain ⟨n1, e1, _, z1⟩ := DataW.trod_int Try.underlying3 g1
  obtain ⟨n2, e2, _, z2⟩ := DataW.trod_int Try.underlying3 g2
  simp only [List.cons.injEq, and_true] at e0 e1 e2
  subst e0 e1 e2
  have u2 := bounds_i64 z2
  clear hA0
  simp only [List.append_nil, List.nil_append] at hW'
  have hlt2 : ∀ x ∈ y0.2 ++ (y1.2 ++ y2.2), x.block < W.heap.size := fun x hx => by simpa using hW'.lt x hx
  refine (swap_any a b n0 n1 n2 W (by unfold maxLen at ha; omega) (by unfold maxLen at hb; omega) (by omega)).mono fun e W' ⟨he, hg⟩ => ?_
  subst he
  exact ⟨_, rfl, _, _, _, [], [] ++ ([] ++ ((y0.2 ++ (y1.2 ++ y2.2)) ++ [])), [], hW', trodAll_cons_mk (shut_bool Try.underlying4 _) trodAll_mk0, trodAll_cons_mk (shut_string Try.underlying9 ha) (trodAll_cons_mk (shut_string Try.underlying9 hb) (trodAll_cons_mk (Below.trod laidOut (by kernel_rfl) (of_decide_eq_true (by kernel_rfl)) h2k hg hlt2) trodAll_mk0)), rfl, hg.frame _, fun h => by cases h⟩

theorem reads (os : Os) {H : Type} (enc : TypeId × Value → H) : ∃ places, DataW.whole enc Try.prog ((World.holding Try.prog os ⟨#[], #[], []⟩).forCall (fun _ _ => 0) ⟨#[], #[.string ⟨#[]⟩, .string ⟨#[]⟩, .agg #[.int .i64 0, .int .i64 0, .int .i64 0]], []⟩).memory Try.f7.params.toList Rows.diskSwapSpec.vars false #[Value.string ⟨#[]⟩, Value.string ⟨#[]⟩, Value.agg #[.int .i64 0, .int .i64 0, .int .i64 0]].toList 8 = some ([.lit (.string []), .lit (.string []), .agg [.lit (.int .i64 0), .lit (.int .i64 0), .lit (.int .i64 0)]], [], places) :=
  ⟨[], by kernel_rfl⟩
set_option maxRecDepth 100000 in
theorem lifted (os : Os) (started : os.Started) (H : Type) (enc : TypeId × Value → H) (F : Stop.Interp) :
    ReturnsInHanded {} Try.checked os 7 .any ((OpenSpec.ofChange Rows.diskSwapSpec).preRow enc Try.prog Try.f7 Rows.diskSwapRow.domain false Rows.diskSwapRow.laid) (((OpenSpec.ofChange Rows.diskSwapSpec).at F).post enc Try.prog Try.f7 false true false false) := by
  obtain ⟨places, hx⟩ := reads os enc
  refine returnsInHanded_of_row (C := Try.checked) (s := OpenSpec.ofChange Rows.diskSwapSpec) own started (by kernel_rfl) Try.func7
    (witness_row_at (enc := enc) (C := Try.checked) false (World.holding Try.prog os ⟨#[], #[], []⟩) #[.string ⟨#[]⟩, .string ⟨#[]⟩, .agg #[.int .i64 0, .int .i64 0, .int .i64 0]] rfl (by kernel_rfl) (by kernel_rfl) (by kernel_rfl)
      (OpenSpec.preRow_of_cond 8 hx (by kernel_rfl) (fun k hk => by cases hk) (by kernel_rfl) (laidMet_of_run' 8 (by kernel_rfl) (by kernel_rfl)))) ?_
  intro W base args ds gs before hval hW _ _ _ _ _ _
  exact contract H enc W base args ds gs before hval hW
end Go.Proofs.Ytpbmkbfcnhekoaa.diskSwap
namespace Go.Proofs.Ytpbmkbfcnhekoaa
/-- Whatever the bytes, the fuse and the crash, DiskSwap returns true. -/
theorem diskSwap_said : Rows.DiskSwapSaid :=
  OpenClaim.holds_of_cond 7 Try.f7 rfl rfl rfl rfl rfl rfl rfl ⟨rfl, rfl, rfl, rfl, rfl⟩ rfl rfl rfl rfl rfl (by kernel_rfl) Try.func7 (by kernel_rfl)
    (of_decide_eq_true (by kernel_rfl)) (by unfold Func.isWrapper; first | (rw [if_pos (by decide +kernel)]; kernel_rfl) | (rw [if_neg (by decide +kernel)]; exact ⟨rfl, rfl⟩))
    (fun os started H enc _ F => by rw [OpenClaim.pre_eq_preRow]; exact diskSwap.lifted os started H enc F)
end Go.Proofs.Ytpbmkbfcnhekoaa
