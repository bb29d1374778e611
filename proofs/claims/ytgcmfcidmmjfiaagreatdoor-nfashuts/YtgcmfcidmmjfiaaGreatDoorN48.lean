/-
  A slice of numbers that comes in as an argument: its numbers lie where it says.
  NfaShuts is proved: for every pattern, every node and all events the law NfaShuts returns true (along any events that are not taken a node stays of its stage, and a road that is shut opens no more; one that is dead comes out of no wait), and its arguments read behind the call as before. Condition: the packages' tables and words, and strconv's and math/bits' variables, read as their own texts lay them (the card ties that to the program).
-/
import Derived.Test.YtgcmfcidmmjfiaaGreatDoorN47
import Derived.ProofKit
import Derived.OpenShut
import Derived.Deep.Slices
import Derived.Test.YtgcmfcidmmjfiaaGreatDoorCards
import Derived.Test.YtgcmfcidmmjfiaaGreatDoorTie
import Derived.Test.YtgcmfcidmmjfiaaGreatDoorN08
import Derived.Test.YtgcmfcidmmjfiaaGreatDoorN31
import Derived.SizedLaws
import Derived.Deep.DeepHandedRow
import Derived.Lib.LaidTab
namespace Go.Proofs.YtgcmfcidmmjfiaaGreatDoor
open Go.RowKit Go.Deep

theorem cells_int : Tryz.prog.cellsOf 3 = 1 := by kernel_rfl
section
variable {H : Type} {enc : TypeId × Value → H} {W : World} {spare : Nat → Bool} {held : Bool} {fuel : Nat} {v : Value} {x : DataW H × List MemPlace}
theorem open_ints (h : DataW.trod enc Tryz.prog W 0 spare held fuel 45 [v] = some x) :
    ∃ (ad : Option Addr) (cap : Nat) (l : List Int), v = .slice ad l.length cap ∧ l.length ≤ 9223372036854775807 ∧ IntsAt W ad l ∧ (∀ y ∈ l, -9223372036854775808 ≤ y ∧ y ≤ 9223372036854775807) ∧ (ad = none → cap = 0) := by
  rcases open_slice1 Tryz.underlying45 cells_int h with ⟨hcs, _⟩ | ⟨a, len, cap, m, n, V, D, Pl, hcs, hb, hl, hm, hmm, _, hx⟩
  · simp only [List.cons.injEq, and_true] at hcs
    subst hcs
    exact ⟨none, 0, [], rfl, by simp, fun hne => absurd rfl hne, by simp, fun _ => rfl⟩
  · simp only [List.cons.injEq, and_true] at hcs
    subst hcs
    have hlm : len ≤ m := by rw [hmm]; split <;> omega
    have each : ∀ i, i < len → ∃ y : Int, W.cell? (a.add i) = some (.int .i64 y) ∧ -9223372036854775808 ≤ y ∧ y ≤ 9223372036854775807 := by
      intro i hi
      obtain ⟨h1, h2⟩ := hx i (by omega)
      obtain ⟨k1, q1, _, wf⟩ := DataW.trod_int Tryz.underlying3 h2
      simp only [List.cons.injEq, and_true] at q1
      rw [q1] at h1
      have := bounds_i64 wf
      exact ⟨k1, h1, this.1, by omega⟩
    have hinh : Inhabited Int := ⟨0⟩
    obtain ⟨q, hq⟩ := choose_lt each
    refine ⟨some a, cap, (List.range len).map q, by simp, by simp; unfold maxLen at hm; omega, fun hne => ?_, fun y hy => ?_, fun e => by cases e⟩
    · have h0 : 0 < len := by
        rcases Nat.eq_zero_or_pos len with e | e
        · subst e; simp at hne
        · exact e
      obtain ⟨b, off, spot⟩ := a
      have hc0 := (hq 0 h0).1
      have hspot : spot = none := by simpa [Addr.add] using World.cell?_spot hc0
      subst hspot
      refine ⟨b, off, rfl, ?_, fun i hi => ?_⟩
      · rcases Nat.lt_or_ge b W.heap.size with hlt | hge
        · exact hlt
        · exfalso
          rw [Go.WideShapes.add_plain] at hc0
          simp [World.cell?, Array.getElem?_eq_none hge] at hc0
      · have hi' : i < len := by simpa using hi
        obtain ⟨c0, _⟩ := hq i hi'
        rw [Go.WideShapes.add_plain] at c0
        simp only [List.getElem_map, List.getElem_range]
        exact c0
    · obtain ⟨i, hi, rfl⟩ := List.mem_map.1 hy
      exact (hq i (List.mem_range.1 hi)).2
theorem open_intsB (h : DataW.trod enc Tryz.prog W 0 spare held fuel 45 [v] = some x) :
    ∃ (ad : Option Addr) (cap : Nat) (l : List Int), v = .slice ad l.length cap ∧ l.length ≤ 9223372036854775807 ∧ IntsAt W ad l ∧ ∀ y ∈ l, -9223372036854775808 ≤ y ∧ y ≤ 9223372036854775807 :=
  let ⟨ad, cap, l, h1, h2, h3, h4, _⟩ := open_ints h
  ⟨ad, cap, l, h1, h2, h3, h4⟩
end
end Go.Proofs.YtgcmfcidmmjfiaaGreatDoor
namespace Go.Proofs.YtgcmfcidmmjfiaaGreatDoor.nfaShuts
open Go.ChangeShapes Go.WideShapes Go.ChangeAt Go.RowKit
open Go.ChangeMaps (open_string shut_string)

theorem own : ownKnob Tryz.prog.godebug = none := by kernel_rfl
theorem laidOut : laidOutB Tryz.prog = true := by kernel_rfl
set_option maxRecDepth 100000 in
/-- What the walk gives, for every argument and every world that holds the table. -/
theorem contract (H : Type) (enc : TypeId × Value → H) (W : World) (base : Nat) (args : Array Value) (ds gs : List (DataW H)) (before : List MemPlace)
    (hval : ∀ (j : Nat) t v, Tryz.f5.params[j]? = some t → args[j]? = some v → Value.okWide Tryz.prog W .any base t v)
    (hW : DataW.Whole enc Tryz.prog Tryz.f5.params.toList Rows.nfaShutsSpec.vars false W args.toList ds gs before) (hL : laidMetH Tryz.prog Rows.nfaShutsRow.laid W) :
    Calls Tryz.prog 5 args W fun e W' => ∃ v, e = .returned v ∧ Rows.nfaShutsSpec.post enc Tryz.prog Tryz.f5 false true false false W args v W' := by
  have hW' := hW
  obtain ⟨p, q, hA0, hV, rfl, hfz, hnd⟩ := hW
  have hA : DataW.TrodAll enc Tryz.prog W 0 (fun _ => true) true Tryz.f5.params.toList args.toList ds p := hA0
  rw [Tryz.params5] at hA hval
  obtain ⟨v0, vs0, d0, ds0, p0, q0, hargs, rfl, rfl, h0, r0⟩ := trodAll_cons hA
  obtain ⟨v1, vs1, d1, ds1, p1, q1, rfl, rfl, rfl, h1, r1⟩ := trodAll_cons r0
  obtain ⟨v2, vs2, d2, ds2, p2, q2, rfl, rfl, rfl, h2, r2⟩ := trodAll_cons r1
  obtain ⟨rfl, rfl, rfl⟩ := trodAll_nil r2
  obtain rfl : args = #[v0, v1, v2] := by cases args; simp_all
  obtain ⟨rfl, rfl⟩ := trodVars_none hV
  have h0k := h0
  obtain ⟨cs0, rfl, y0⟩ := okWide_struct Tryz.underlying24 (hval 0 24 v0 rfl rfl)
  obtain ⟨fuel0, hf0⟩ := h0
  obtain ⟨sa0, sc0, st0, wi0, rfl, b10, b20, b30, b40, b50⟩ := open_pattern y0 (by simpa [Value.cells] using hf0)
  clear hf0
  have h1k := h1
  obtain ⟨cs1, rfl, z1⟩ := okWide_struct Tryz.underlying26 (hval 1 26 v1 rfl rfl)
  obtain ⟨fuel1, hf1⟩ := h1
  obtain ⟨nd1, rfl⟩ := open_node z1 (by simpa [Value.cells] using hf1)
  clear hf1
  have h2k := h2
  obtain ⟨a2, len2, cp2, rfl⟩ := okWide_slice Tryz.underlying45 (hval 2 45 v2 rfl rfl)
  obtain ⟨fuel2, hf2⟩ := h2
  obtain ⟨ad2, cap2, l2, hv2, hl2, hI2, hok2, _⟩ := open_ints (v := .slice a2 len2 cp2) (by simpa [Value.cells] using hf2)
  rw [hv2] at hW' h2k ⊢
  clear hf2 hv2
  clear hA0
  simp only [List.append_nil] at hW'
  have hlt0 : ∀ x ∈ p0, x.block < W.heap.size := fun x hx => by simpa using hW'.lt x (by simp [hx])
  have hlt1 : ∀ x ∈ p1, x.block < W.heap.size := fun x hx => by simpa using hW'.lt x (by simp [hx])
  have hlt2 : ∀ x ∈ p2, x.block < W.heap.size := fun x hx => by simpa using hW'.lt x (by simp [hx])
  refine (nshuts_walk sa0 sc0 st0 wi0 nd1 ad2 cap2 l2 W b10 b20 b30 hl2 hI2 hok2 (tbE hL)).mono fun e W' ⟨he, hg0⟩ => ?_
  subst he
  have hg := hg0.below (Nat.le_refl W.heap.size) (by simp)
  exact ⟨_, rfl, _, _, _, [], p0 ++ (p1 ++ (p2 ++ [])), [], hW', trodAll_cons_mk (shut_bool Tryz.underlying4 _) trodAll_mk0, trodAll_cons_mk (Below.trod laidOut (by kernel_rfl) (of_decide_eq_true (by kernel_rfl)) h0k hg hlt0) (trodAll_cons_mk (Below.trod laidOut (by kernel_rfl) (of_decide_eq_true (by kernel_rfl)) h1k hg hlt1) (trodAll_cons_mk (Below.trod laidOut (by kernel_rfl) (of_decide_eq_true (by kernel_rfl)) h2k hg hlt2) trodAll_mk0)), rfl, hg.frame _, fun h => by cases h⟩

theorem laid_met (os : Os) : laidMet Tryz.prog Rows.nfaShutsRow.laid ({ World.holding Tryz.prog os ⟨errBlks, #[], []⟩ with heap := putL (World.holding Tryz.prog os ⟨errBlks, #[], []⟩).heap }.forCall (fun _ _ => 0) ⟨#[], #[.agg #[.slice none 0 0, .int .i64 0], .agg #[.int .i64 0, .bool false, .bool false], .slice none 0 0], []⟩).memory :=
  laidMet_of_run' 8 (by kernel_rfl) (by kernel_rfl)
theorem reads (os : Os) {H : Type} (enc : TypeId × Value → H) : ∃ places, DataW.whole enc Tryz.prog ({ World.holding Tryz.prog os ⟨errBlks, #[], []⟩ with heap := putL (World.holding Tryz.prog os ⟨errBlks, #[], []⟩).heap }.forCall (fun _ _ => 0) ⟨#[], #[.agg #[.slice none 0 0, .int .i64 0], .agg #[.int .i64 0, .bool false, .bool false], .slice none 0 0], []⟩).memory Tryz.f5.params.toList Rows.nfaShutsSpec.vars false #[Value.agg #[.slice none 0 0, .int .i64 0], Value.agg #[.int .i64 0, .bool false, .bool false], Value.slice none 0 0].toList 8 = some ([.agg [.nil, .lit (.int .i64 0)], .agg [.lit (.int .i64 0), .lit (.bool false), .lit (.bool false)], .nil], [], places) :=
  ⟨[], by kernel_rfl⟩
set_option maxRecDepth 100000 in
theorem lifted (os : Os) (started : os.Started) (H : Type) (enc : TypeId × Value → H) (F : Stop.Interp) :
    ReturnsInHanded {} Tryz.checked os 5 .any ((OpenSpec.ofChange Rows.nfaShutsSpec).preRow enc Tryz.prog Tryz.f5 Rows.nfaShutsRow.domain false Rows.nfaShutsRow.laid) (((OpenSpec.ofChange Rows.nfaShutsSpec).at F).post enc Tryz.prog Tryz.f5 false true false false) := by
  obtain ⟨places, hx⟩ := reads os enc
  refine returnsInHanded_of_row (C := Tryz.checked) (s := OpenSpec.ofChange Rows.nfaShutsSpec) own started (by kernel_rfl) Tryz.func5
    (witness_row_at (enc := enc) (C := Tryz.checked) false { World.holding Tryz.prog os ⟨errBlks, #[], []⟩ with heap := putL (World.holding Tryz.prog os ⟨errBlks, #[], []⟩).heap } #[.agg #[.slice none 0 0, .int .i64 0], .agg #[.int .i64 0, .bool false, .bool false], .slice none 0 0] rfl (by kernel_rfl) (by kernel_rfl) (by kernel_rfl)
      (OpenSpec.preRow_of_cond 8 hx (by kernel_rfl) (fun k hk => by cases hk) (by kernel_rfl) (laid_met os))) ?_
  intro W base args ds gs before hval hW _ _ _ hL _ _
  exact contract H enc W base args ds gs before hval hW hL
theorem said : Rows.NfaShutsSaid :=
  OpenClaim.holds_of_cond 5 Tryz.f5 rfl rfl rfl rfl rfl rfl rfl ⟨rfl, rfl, rfl, rfl, rfl⟩ rfl rfl rfl rfl rfl (by kernel_rfl) Tryz.func5 (by kernel_rfl)
    (of_decide_eq_true (by kernel_rfl)) (by unfold Func.isWrapper; first | (rw [if_pos (by decide +kernel)]; kernel_rfl) | (rw [if_neg (by decide +kernel)]; exact ⟨rfl, rfl⟩))
    (fun os started H enc _ F => by rw [OpenClaim.pre_eq_preRow]; exact lifted os started H enc F)
/-- No parameter wants a stand-in; the program's own looks are off. -/
theorem plain (f : FuncId) (fn : Func) (hf : Tryz.pinned.checked.prog.funcNamed "weaver/weaverlaw13.NfaShuts" = some f) (hfn : Tryz.pinned.checked.prog.funcs[f]? = some fn) :
    true = Tryz.pinned.checked.prog.looks [] ∧ ∀ (j : Nat) t, fn.params[j]? = some t → Tryz.pinned.checked.prog.wantsStandIn t = false := by
  obtain rfl : f = 5 := Option.some.inj ((show Tryz.prog.funcNamed "weaver/weaverlaw13.NfaShuts" = some 5 by kernel_rfl).symm.trans hf) |>.symm
  obtain rfl : fn = Tryz.f5 := (Option.some.inj (Tryz.func5.symm.trans hfn)).symm
  refine ⟨by kernel_rfl, fun j t ht => ?_⟩
  rw [Tryz.params5] at ht
  have hm := Array.mem_of_getElem? ht
  simp at hm
  rcases hm with rfl | rfl | rfl
  · exact (show Tryz.prog.wantsStandIn 24 = false by kernel_rfl)
  · exact (show Tryz.prog.wantsStandIn 26 = false by kernel_rfl)
  · exact (show Tryz.prog.wantsStandIn 45 = false by kernel_rfl)
end Go.Proofs.YtgcmfcidmmjfiaaGreatDoor.nfaShuts
namespace Go.Proofs.YtgcmfcidmmjfiaaGreatDoor
/-- The card. -/
theorem nfaShuts_card : Rows.NfaShutsCardSaid :=
  Claim7.holds_tied_plain_at .later [] _ _ _ _ nfaShuts.said (fun _ h => by cases h) (by kernel_rfl) (fun _ h => by cases h) nfaShuts_row_tie rfl ⟨rfl, rfl⟩ (by kernel_rfl) rfl nfaShuts.plain (by kernel_rfl)
end Go.Proofs.YtgcmfcidmmjfiaaGreatDoor
