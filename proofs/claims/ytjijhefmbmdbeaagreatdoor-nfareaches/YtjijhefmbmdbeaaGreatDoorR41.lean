/-
  NfaReaches is proved: for every pattern and all events the law NfaReaches returns true (all nodes that come out along any events are among a pattern's nodes, each of which may be), and its arguments read behind the call as before. Condition: the packages' tables and words, and strconv's and math/bits' variables, read as their own texts lay them (the card ties that to the program).
-/
import Derived.Test.YtjijhefmbmdbeaaGreatDoorCards
import Derived.Test.YtjijhefmbmdbeaaGreatDoorTie
import Derived.Test.YtjijhefmbmdbeaaGreatDoorR36
import Derived.Test.YtjijhefmbmdbeaaGreatDoorR37
import Derived.Test.YtjijhefmbmdbeaaGreatDoorR35
import Derived.Test.YtjijhefmbmdbeaaGreatDoorR40
import Derived.SizedLaws
import Derived.ProofKit
import Derived.OpenShut
import Derived.Deep.DeepHandedRow
import Derived.Lib.LaidTab
namespace Go.Proofs.YtjijhefmbmdbeaaGreatDoor.nfaReaches
open Go.ChangeShapes Go.WideShapes Go.ChangeAt Go.RowKit
open Go.ChangeMaps (open_string shut_string)

theorem own : ownKnob Tryz.prog.godebug = none := by kernel_rfl
theorem laidOut : laidOutB Tryz.prog = true := by kernel_rfl
set_option maxRecDepth 100000 in
/-- What the walk gives, for every argument and every world that holds the table. -/
theorem contract (H : Type) (enc : TypeId × Value → H) (W : World) (base : Nat) (args : Array Value) (ds gs : List (DataW H)) (before : List MemPlace)
    (hval : ∀ (j : Nat) t v, Tryz.f5.params[j]? = some t → args[j]? = some v → Value.okWide Tryz.prog W .any base t v)
    (hW : DataW.Whole enc Tryz.prog Tryz.f5.params.toList Rows.nfaReachesSpec.vars false W args.toList ds gs before) (hL : laidMetH Tryz.prog Rows.nfaReachesRow.laid W) :
    Calls Tryz.prog 5 args W fun e W' => ∃ v, e = .returned v ∧ Rows.nfaReachesSpec.post enc Tryz.prog Tryz.f5 false true false false W args v W' := by
  have hW' := hW
  obtain ⟨p, q, hA0, hV, rfl, hfz, hnd⟩ := hW
  have hA : DataW.TrodAll enc Tryz.prog W 0 (fun _ => true) true Tryz.f5.params.toList args.toList ds p := hA0
  rw [Tryz.params5] at hA hval
  obtain ⟨v0, vs0, d0, ds0, p0, q0, hargs, rfl, rfl, h0, r0⟩ := trodAll_cons hA
  obtain ⟨v1, vs1, d1, ds1, p1, q1, rfl, rfl, rfl, h1, r1⟩ := trodAll_cons r0
  obtain ⟨rfl, rfl, rfl⟩ := trodAll_nil r1
  obtain rfl : args = #[v0, v1] := by cases args; simp_all
  obtain ⟨rfl, rfl⟩ := trodVars_none hV
  have h0k := h0
  obtain ⟨cs0, rfl, y0⟩ := okWide_struct Tryz.underlying24 (hval 0 24 v0 rfl rfl)
  obtain ⟨fuel0, hf0⟩ := h0
  obtain ⟨sa0, sc0, st0, wi0, rfl, b10, b20, b30, b40, b50⟩ := open_pattern y0 (by simpa [Value.cells] using hf0)
  clear hf0
  have h1k := h1
  obtain ⟨a1, len1, cp1, rfl⟩ := okWide_slice Tryz.underlying45 (hval 1 45 v1 rfl rfl)
  obtain ⟨fuel1, hf1⟩ := h1
  obtain ⟨ad1, cap1, l1, hv1, hl1, hI1, hok1, _⟩ := open_ints (v := .slice a1 len1 cp1) (by simpa [Value.cells] using hf1)
  rw [hv1] at hW' h1k ⊢
  clear hf1 hv1
  clear hA0
  simp only [List.append_nil] at hW'
  have hlt0 : ∀ x ∈ p0, x.block < W.heap.size := fun x hx => by simpa using hW'.lt x (by simp [hx])
  have hlt1 : ∀ x ∈ p1, x.block < W.heap.size := fun x hx => by simpa using hW'.lt x (by simp [hx])
  refine (nreaches_walk sa0 sc0 st0 wi0 ad1 cap1 l1 W b10 b20 b30 hl1 hI1 hok1 (tbN hL)).mono fun e W' ⟨he, hg0⟩ => ?_
  subst he
  have hg := hg0.below (Nat.le_refl W.heap.size) (by simp)
  exact ⟨_, rfl, _, _, _, [], p0 ++ (p1 ++ []), [], hW', trodAll_cons_mk (shut_bool Tryz.underlying4 _) trodAll_mk0, trodAll_cons_mk (Below.trod laidOut (by kernel_rfl) (of_decide_eq_true (by kernel_rfl)) h0k hg hlt0) (trodAll_cons_mk (Below.trod laidOut (by kernel_rfl) (of_decide_eq_true (by kernel_rfl)) h1k hg hlt1) trodAll_mk0), rfl, hg.frame _, fun h => by cases h⟩

theorem laid_met (os : Os) : laidMet Tryz.prog Rows.nfaReachesRow.laid ({ World.holding Tryz.prog os ⟨errBlks, #[], []⟩ with heap := putN (World.holding Tryz.prog os ⟨errBlks, #[], []⟩).heap }.forCall (fun _ _ => 0) ⟨#[], #[.agg #[.slice none 0 0, .int .i64 0], .slice none 0 0], []⟩).memory :=
  laidMet_of_run' 8 (by kernel_rfl) (by kernel_rfl)
theorem reads (os : Os) {H : Type} (enc : TypeId × Value → H) : ∃ places, DataW.whole enc Tryz.prog ({ World.holding Tryz.prog os ⟨errBlks, #[], []⟩ with heap := putN (World.holding Tryz.prog os ⟨errBlks, #[], []⟩).heap }.forCall (fun _ _ => 0) ⟨#[], #[.agg #[.slice none 0 0, .int .i64 0], .slice none 0 0], []⟩).memory Tryz.f5.params.toList Rows.nfaReachesSpec.vars false #[Value.agg #[.slice none 0 0, .int .i64 0], Value.slice none 0 0].toList 8 = some ([.agg [.nil, .lit (.int .i64 0)], .nil], [], places) :=
  ⟨[], by kernel_rfl⟩
set_option maxRecDepth 100000 in
theorem lifted (os : Os) (started : os.Started) (H : Type) (enc : TypeId × Value → H) (F : Stop.Interp) :
    ReturnsInHanded {} Tryz.checked os 5 .any ((OpenSpec.ofChange Rows.nfaReachesSpec).preRow enc Tryz.prog Tryz.f5 Rows.nfaReachesRow.domain false Rows.nfaReachesRow.laid) (((OpenSpec.ofChange Rows.nfaReachesSpec).at F).post enc Tryz.prog Tryz.f5 false true false false) := by
  obtain ⟨places, hx⟩ := reads os enc
  refine returnsInHanded_of_row (C := Tryz.checked) (s := OpenSpec.ofChange Rows.nfaReachesSpec) own started (by kernel_rfl) Tryz.func5
    (witness_row_at (enc := enc) (C := Tryz.checked) false { World.holding Tryz.prog os ⟨errBlks, #[], []⟩ with heap := putN (World.holding Tryz.prog os ⟨errBlks, #[], []⟩).heap } #[.agg #[.slice none 0 0, .int .i64 0], .slice none 0 0] rfl (by kernel_rfl) (by kernel_rfl) (by kernel_rfl)
      (OpenSpec.preRow_of_cond 8 hx (by kernel_rfl) (fun k hk => by cases hk) (by kernel_rfl) (laid_met os))) ?_
  intro W base args ds gs before hval hW _ _ _ hL _ _
  exact contract H enc W base args ds gs before hval hW hL
theorem said : Rows.NfaReachesSaid :=
  OpenClaim.holds_of_cond 5 Tryz.f5 rfl rfl rfl rfl rfl rfl rfl ⟨rfl, rfl, rfl, rfl, rfl⟩ rfl rfl rfl rfl rfl (by kernel_rfl) Tryz.func5 (by kernel_rfl)
    (of_decide_eq_true (by kernel_rfl)) (by unfold Func.isWrapper; first | (rw [if_pos (by decide +kernel)]; kernel_rfl) | (rw [if_neg (by decide +kernel)]; exact ⟨rfl, rfl⟩))
    (fun os started H enc _ F => by rw [OpenClaim.pre_eq_preRow]; exact lifted os started H enc F)
/-- No parameter wants a stand-in; the program's own looks are off. -/
theorem plain (f : FuncId) (fn : Func) (hf : Tryz.pinned.checked.prog.funcNamed "weaver/weaverlaw13.NfaReaches" = some f) (hfn : Tryz.pinned.checked.prog.funcs[f]? = some fn) :
    true = Tryz.pinned.checked.prog.looks [] ∧ ∀ (j : Nat) t, fn.params[j]? = some t → Tryz.pinned.checked.prog.wantsStandIn t = false := by
  obtain rfl : f = 5 := Option.some.inj ((show Tryz.prog.funcNamed "weaver/weaverlaw13.NfaReaches" = some 5 by kernel_rfl).symm.trans hf) |>.symm
  obtain rfl : fn = Tryz.f5 := (Option.some.inj (Tryz.func5.symm.trans hfn)).symm
  refine ⟨by kernel_rfl, fun j t ht => ?_⟩
  rw [Tryz.params5] at ht
  have hm := Array.mem_of_getElem? ht
  simp at hm
  rcases hm with rfl | rfl
  · exact (show Tryz.prog.wantsStandIn 24 = false by kernel_rfl)
  · exact (show Tryz.prog.wantsStandIn 45 = false by kernel_rfl)
end Go.Proofs.YtjijhefmbmdbeaaGreatDoor.nfaReaches
namespace Go.Proofs.YtjijhefmbmdbeaaGreatDoor
/-- The card. -/
theorem nfaReaches_card : Rows.NfaReachesCardSaid :=
  Claim7.holds_tied_plain_at .later [] _ _ _ _ nfaReaches.said (fun _ h => by cases h) (by kernel_rfl) (fun _ h => by cases h) nfaReaches_row_tie rfl ⟨rfl, rfl⟩ (by kernel_rfl) rfl nfaReaches.plain (by kernel_rfl)
end Go.Proofs.YtjijhefmbmdbeaaGreatDoor
