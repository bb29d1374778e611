/-
  PatternChecks: which patterns may be, and their texts, is as the document has it; a pattern stays as it is.
  PatternChecks is proved: for every pattern the law PatternChecks returns true (which patterns may be, and their texts, is as the document has it; a pattern stays as it is), and its argument reads behind the call as before. Condition: the packages' tables and words, and strconv's and math/bits' variables, read as their own texts lay them (the card ties that to the program).
-/
import Derived.Test.YtjijhefmbmdbeaaGreatDoorP49
import Derived.Test.YtjijhefmbmdbeaaGreatDoorP50
import Derived.Test.YtjijhefmbmdbeaaGreatDoorP51
import Derived.Test.YtjijhefmbmdbeaaGreatDoorP52
import Derived.Test.YtjijhefmbmdbeaaGreatDoorCards
import Derived.Test.YtjijhefmbmdbeaaGreatDoorTie
import Derived.Test.YtjijhefmbmdbeaaGreatDoorP32
import Derived.SizedLaws
import Derived.ProofKit
import Derived.OpenShut
import Derived.Deep.DeepHandedRow
import Derived.Lib.LaidTab
namespace Go.Proofs.YtjijhefmbmdbeaaGreatDoor
open Go.RowKit Go.Shelf

set_option maxHeartbeats 4000000 in
set_option maxRecDepth 100000 in
theorem pchecks_walk (sa : Option Addr) (sc : Nat) (l : List SR) (wi : Int) (w : World) (hl : l.length ≤ 9223372036854775807) (h : StsAt w sa l) (hok : ∀ r ∈ l, r.s.ok) (hwt : l.length * 56 ≤ 140737488351232 ∧ (sa = none → sc = 0) ∧ ∀ r ∈ l, r.hv) (hT : TbP w) :
    Calls Tryz.prog 6 #[.agg #[.slice sa l.length sc, .int .i64 wi]] w fun e w' => e = .returned (.bool true) ∧ Kp [] w w' := by
  obtain ⟨hw1, hw2, hw3⟩ := hwt
  have hHv : ∀ r ∈ l, ∀ p ∈ r.s.cd, p.s.size ≤ 140737488351232 ∧ p.st.size ≤ 140737488351232 := fun r hr p hp => (hw3 r hr).2.2.2 p hp
  have k0 := Kp.alloc w (.cells #[.slice sa l.length sc, .int .i64 wi] 24)
  have hP := CBox.new w #[.slice sa l.length sc, .int .i64 wi] 24
  have CP := hide (copyPattern_any sa sc l wi _ (h.kp k0) hw2 hw1 (fun r hr => ⟨(hw3 r hr).2.2.1, (hw3 r hr).1⟩))
  have RC := hide (fun W (hk : Kp [] w W) => rpcheck_any sa sc l wi W (h.kp hk) hl hok hHv)
  have RW := hide (fun W (hk : Kp [] w W) => rpwrite_any sa sc l wi W (h.kp hk) hl hok hHv)
  have OWN : Hid (∀ (g cap : Nat) (rs : List SR), stgs rs = stgs l → (∀ W, Kp [] w W → StsAt W (some ⟨g, 0, none⟩) rs → Calls Tryz.prog 21 #[.agg #[.slice (some ⟨g, 0, none⟩) l.length cap, .int .i64 wi]] W fun e w' => e = .returned (.tuple #[.int .i64 (pcR ⟨stgs l, wi⟩).1, .int .i64 (pcR ⟨stgs l, wi⟩).2]) ∧ Kp [] W w') ∧ (∀ W, Kp [] w W → StsAt W (some ⟨g, 0, none⟩) rs → Calls Tryz.prog 23 #[.agg #[.slice (some ⟨g, 0, none⟩) l.length cap, .int .i64 wi]] W fun e w' => e = .returned (.tuple #[.string (wrP ⟨stgs l, wi⟩).1, .int .i64 (wrP ⟨stgs l, wi⟩).2]) ∧ Kp [] W w') ∧ (∀ W, Kp [] w W → StsAt W (some ⟨g, 0, none⟩) rs → Calls Tryz.prog 16 #[.agg #[.slice (some ⟨g, 0, none⟩) l.length cap, .int .i64 wi], .agg #[.slice sa l.length sc, .int .i64 wi]] W fun e w' => e = .returned (.bool true) ∧ Kp [] W w')) := hide (fun g cap rs e => by
    have hlr := rs_len e
    refine ⟨fun W hk hs => ?_, fun W hk hs => ?_, fun W hk hs => ?_⟩
    · have := pcheck_any (some ⟨g, 0, none⟩) cap rs wi W hs (hT.kp hk (by simp)).ex (rs_ok e hok) (by omega)
      rw [e, hlr] at this
      exact this.mono (fun _ _ ⟨h1, h2⟩ => ⟨h1, Kp.ofBelow h2⟩)
    · have := pwrite_any (some ⟨g, 0, none⟩) cap rs wi W hs (hT.kp hk (by simp)) (rs_ok e hok) (by omega)
      rw [e, hlr] at this
      exact this.mono (fun _ _ ⟨h1, h2⟩ => ⟨h1, Kp.ofBelow h2⟩)
    · have := samePattern_true (some ⟨g, 0, none⟩) sa cap sc rs l wi W hs (h.kp hk) e (by omega) (rs_cd e hw3)
      rwa [hlr] at this)
  have WK : Hid (∀ W, Kp [] w W → Calls Tryz.prog 25 #[] W fun e w' => e = .returned (.bool true) ∧ Kp [] W w') := hide (fun W hk => (pworks_any W (hT.kp hk (by simp))).mono (fun _ _ ⟨h1, h2⟩ => ⟨h1, Kp.ofBelow h2⟩))
  clear h hok hl hT hw1 hw2 hw3 hHv
  obtain ⟨L, hL⟩ : ∃ L, stgs l = L := ⟨_, rfl⟩
  rw [hL] at CP OWN RC RW
  clear hL
  generalize l.length = nn at *
  generalize (pcR ⟨L, wi⟩).1 = PA at *
  generalize (pcR ⟨L, wi⟩).2 = PE at *
  generalize (wrP ⟨L, wi⟩).1 = WA at *
  generalize (wrP ⟨L, wi⟩).2 = WE at *
  have HK0 := hide k0
  have HP0 := hide hP
  have c0 := hP.cell (i := 0) (v := .slice sa nn sc) rfl
  have c1 := hP.cell (i := 1) (v := .int .i64 wi) rfl
  clear k0 hP
  go_enter Tryz.func6, Tryz.ntmps6
  go_wp2_with fail
  refine (unhide CP).mono ?_
  rintro e w1 ⟨g, cap, rs, rfl, hsr, hse, hcap, hk1, hg, -⟩
  obtain ⟨oC, oW, oM⟩ := unhide OWN g cap rs hse
  have ka := Kp.alloc w1 (.cells #[.slice (some ⟨g, 0, none⟩) nn cap, .int .i64 wi] 24)
  have hbo := CBox.new w1 #[.slice (some ⟨g, 0, none⟩) nn cap, .int .i64 wi] 24
  obtain ⟨go, hgo⟩ : ∃ go, w1.heap.size = go := ⟨_, rfl⟩
  rw [hgo] at hbo
  have HV : Hid (∀ W, Kp [] (w1.alloc (.cells #[.slice (some ⟨g, 0, none⟩) nn cap, .int .i64 wi] 24)) W → (W.cell? ⟨w.heap.size, 0, none⟩ = some (.slice sa nn sc) ∧ W.cell? ⟨w.heap.size, 1, none⟩ = some (.int .i64 wi) ∧ W.cell? ⟨go, 0, none⟩ = some (.slice (some ⟨g, 0, none⟩) nn cap) ∧ W.cell? ⟨go, 1, none⟩ = some (.int .i64 wi)) ∧ Hid (Kp [] w W ∧ StsAt W (some ⟨g, 0, none⟩) rs)) := hide (fun W hk => by
    have hb := (((unhide HP0).kp hk1 (by simp)).kp ka (by simp)).kp hk (by simp)
    exact ⟨⟨hb.cell rfl, hb.cell rfl, (hbo.kp hk (by simp)).cell rfl, (hbo.kp hk (by simp)).cell rfl⟩, hide ⟨(((unhide HK0).trans hk1 (by simp)).trans ka (by simp)).trans hk (by simp), (hsr.kp ka).kp hk⟩⟩)
  have OC := hide (fun W (hk : Kp [] _ W) => oC W (unhide (unhide HV W hk).2).1 (unhide (unhide HV W hk).2).2)
  have OW := hide (fun W (hk : Kp [] _ W) => oW W (unhide (unhide HV W hk).2).1 (unhide (unhide HV W hk).2).2)
  have OM := hide (fun W (hk : Kp [] _ W) => oM W (unhide (unhide HV W hk).2).1 (unhide (unhide HV W hk).2).2)
  have QC := hide (fun W (hk : Kp [] _ W) => unhide RC W (unhide (unhide HV W hk).2).1)
  have QR := hide (fun W (hk : Kp [] _ W) => unhide RW W (unhide (unhide HV W hk).2).1)
  have QW := hide (fun W (hk : Kp [] _ W) => unhide WK W (unhide (unhide HV W hk).2).1)
  clear CP OWN RC RW WK oC oW oM ka hbo hsr hse hk1 HK0 HP0 c0 c1 hcap hg
  go_upto_region 2 with fail
  generalize w1.alloc (.cells #[.slice (some ⟨g, 0, none⟩) nn cap, .int .i64 wi] 24) = V at *
  clear hgo
  obtain ⟨⟨q0, q1, q2, q3⟩, -⟩ := unhide HV V (Kp.refl _ _)
  go_wp2_with fail
  refine (unhide OC _ (Kp.refl _ _)).mono ?_
  rintro e w2 ⟨rfl, hk2⟩
  clear q0 q1 q2 q3 OC
  obtain ⟨⟨q0, q1, q2, q3⟩, -⟩ := unhide HV w2 hk2
  go_wp2_with fail
  refine (unhide QC _ hk2).mono ?_
  rintro e w3 ⟨rfl, hk3⟩
  replace hk3 := hk2.trans hk3 (by simp)
  clear q0 q1 q2 q3 QC hk2
  obtain ⟨⟨q0, q1, q2, q3⟩, -⟩ := unhide HV w3 hk3
  go_wp2_with fail
  refine (unhide OW _ hk3).mono ?_
  rintro e w4 ⟨rfl, hk4⟩
  replace hk4 := hk3.trans hk4 (by simp)
  clear q0 q1 q2 q3 OW hk3
  obtain ⟨⟨q0, q1, q2, q3⟩, -⟩ := unhide HV w4 hk4
  go_wp2_with fail
  refine (unhide QR _ hk4).mono ?_
  rintro e w5 ⟨rfl, hk5⟩
  replace hk5 := hk4.trans hk5 (by simp)
  clear q0 q1 q2 q3 QR hk4
  obtain ⟨⟨q0, q1, q2, q3⟩, -⟩ := unhide HV w5 hk5
  go_wp2_with fail
  refine (unhide OM _ hk5).mono ?_
  rintro e w6 ⟨rfl, hk6⟩
  replace hk6 := hk5.trans hk6 (by simp)
  clear q0 q1 q2 q3 OM hk5
  go_wp2_with fail
  refine (unhide QW _ hk6).mono ?_
  rintro e w7 ⟨rfl, hk7⟩
  have HF := hide (unhide (unhide HV w7 (hk6.trans hk7 (by simp))).2).1
  clear HV QW hk6 hk7
  go_wp2
  go_ret
  exact ⟨rfl, unhide HF⟩
end Go.Proofs.YtjijhefmbmdbeaaGreatDoor
namespace Go.Proofs.YtjijhefmbmdbeaaGreatDoor.patternChecks
open Go.ChangeShapes Go.WideShapes Go.ChangeAt Go.RowKit
open Go.ChangeMaps (open_string shut_string)

theorem own : ownKnob Tryz.prog.godebug = none := by kernel_rfl
theorem laidOut : laidOutB Tryz.prog = true := by kernel_rfl
set_option maxRecDepth 100000 in
/-- What the walk gives, for every argument and every world that holds the table. -/
theorem contract (H : Type) (enc : TypeId × Value → H) (W : World) (base : Nat) (args : Array Value) (ds gs : List (DataW H)) (before : List MemPlace)
    (hval : ∀ (j : Nat) t v, Tryz.f6.params[j]? = some t → args[j]? = some v → Value.okWide Tryz.prog W .any base t v)
    (hW : DataW.Whole enc Tryz.prog Tryz.f6.params.toList Rows.patternChecksSpec.vars false W args.toList ds gs before) (hsz0 : (DataW.weightsEach Tryz.prog (Tryz.f6.params.toList ++ (OpenSpec.ofChange Rows.patternChecksSpec).bare.plain.varTypes Tryz.prog) (ds ++ gs)).all (· ≤ reachBytes) = true) (hL : laidMetH Tryz.prog Rows.patternChecksRow.laid W) :
    Calls Tryz.prog 6 args W fun e W' => ∃ v, e = .returned v ∧ Rows.patternChecksSpec.post enc Tryz.prog Tryz.f6 false true false false W args v W' := by
  have hW' := hW
  obtain ⟨p, q, hA0, hV, rfl, hfz, hnd⟩ := hW
  have hA : DataW.TrodAll enc Tryz.prog W 0 (fun _ => true) true Tryz.f6.params.toList args.toList ds p := hA0
  rw [Tryz.params6] at hA hval
  have hsz : (DataW.weightsEach Tryz.prog (Tryz.f6.params.toList ++ Rows.patternChecksSpec.plain.varTypes Tryz.prog) (ds ++ gs)).all (· ≤ reachBytes) = true := hsz0
  rw [Tryz.params6] at hsz
  obtain ⟨v0, vs0, d0, ds0, p0, q0, hargs, rfl, rfl, h0, r0⟩ := trodAll_cons hA
  obtain ⟨rfl, rfl, rfl⟩ := trodAll_nil r0
  obtain rfl : args = #[v0] := by cases args; simp_all
  obtain ⟨rfl, rfl⟩ := trodVars_none hV
  have z0 : ∀ n ∈ d0.weights Tryz.prog 24, n ≤ reachBytes := fun n hn => of_decide_eq_true (List.all_eq_true.1 hsz n (DataW.weights_mem_each (j := 0) (t := 24) (d := d0) rfl rfl n hn))
  have h0k := h0
  obtain ⟨cs0, rfl, y0⟩ := okWide_struct Tryz.underlying24 (hval 0 24 v0 rfl rfl)
  obtain ⟨fuel0, hf0⟩ := h0
  obtain ⟨sa0, sc0, st0, wi0, rfl, b10, b20, b30, b40, b50⟩ := open_pattern y0 (by simpa [Value.cells] using hf0)
  clear hf0
  clear hA0
  simp only [List.append_nil] at hW'
  have hlt0 : ∀ x ∈ p0, x.block < W.heap.size := fun x hx => by simpa using hW'.lt x (by simp [hx])
  refine (pchecks_walk sa0 sc0 st0 wi0 W b10 b20 b30 (b50 z0) (tbP hL)).mono fun e W' ⟨he, hg0⟩ => ?_
  subst he
  have hg := hg0.below (Nat.le_refl W.heap.size) (by simp)
  exact ⟨_, rfl, _, _, _, [], p0 ++ [], [], hW', trodAll_cons_mk (shut_bool Tryz.underlying4 _) trodAll_mk0, trodAll_cons_mk (Below.trod laidOut (by kernel_rfl) (of_decide_eq_true (by kernel_rfl)) h0k hg hlt0) trodAll_mk0, rfl, hg.frame _, fun h => by cases h⟩

theorem laid_met (os : Os) : laidMet Tryz.prog Rows.patternChecksRow.laid ({ World.holding Tryz.prog os ⟨errBlks, #[], []⟩ with heap := putQ (World.holding Tryz.prog os ⟨errBlks, #[], []⟩).heap }.forCall (fun _ _ => 0) ⟨#[], #[.agg #[.slice none 0 0, .int .i64 0]], []⟩).memory :=
  laidMet_of_run' 8 (by kernel_rfl) (by kernel_rfl)
theorem reads (os : Os) {H : Type} (enc : TypeId × Value → H) : ∃ places, DataW.whole enc Tryz.prog ({ World.holding Tryz.prog os ⟨errBlks, #[], []⟩ with heap := putQ (World.holding Tryz.prog os ⟨errBlks, #[], []⟩).heap }.forCall (fun _ _ => 0) ⟨#[], #[.agg #[.slice none 0 0, .int .i64 0]], []⟩).memory Tryz.f6.params.toList Rows.patternChecksSpec.vars false #[Value.agg #[.slice none 0 0, .int .i64 0]].toList 8 = some ([.agg [.nil, .lit (.int .i64 0)]], [], places) :=
  ⟨[], by kernel_rfl⟩
set_option maxRecDepth 100000 in
theorem lifted (os : Os) (started : os.Started) (H : Type) (enc : TypeId × Value → H) (F : Stop.Interp) :
    ReturnsInHanded {} Tryz.checked os 6 .any ((OpenSpec.ofChange Rows.patternChecksSpec).preRow enc Tryz.prog Tryz.f6 Rows.patternChecksRow.domain false Rows.patternChecksRow.laid) (((OpenSpec.ofChange Rows.patternChecksSpec).at F).post enc Tryz.prog Tryz.f6 false true false false) := by
  obtain ⟨places, hx⟩ := reads os enc
  refine returnsInHanded_of_row (C := Tryz.checked) (s := OpenSpec.ofChange Rows.patternChecksSpec) own started (by kernel_rfl) Tryz.func6
    (witness_row_at (enc := enc) (C := Tryz.checked) false { World.holding Tryz.prog os ⟨errBlks, #[], []⟩ with heap := putQ (World.holding Tryz.prog os ⟨errBlks, #[], []⟩).heap } #[.agg #[.slice none 0 0, .int .i64 0]] rfl (by kernel_rfl) (by kernel_rfl) (by kernel_rfl)
      (OpenSpec.preRow_of_cond 8 hx (by kernel_rfl) (fun k hk => by cases hk) (by kernel_rfl) (laid_met os))) ?_
  intro W base args ds gs before hval hW _ _ hsz hL _ _
  exact contract H enc W base args ds gs before hval hW hsz hL
theorem said : Rows.PatternChecksSaid :=
  OpenClaim.holds_of_cond 6 Tryz.f6 rfl rfl rfl rfl rfl rfl rfl ⟨rfl, rfl, rfl, rfl, rfl⟩ rfl rfl rfl rfl rfl (by kernel_rfl) Tryz.func6 (by kernel_rfl)
    (of_decide_eq_true (by kernel_rfl)) (by unfold Func.isWrapper; first | (rw [if_pos (by decide +kernel)]; kernel_rfl) | (rw [if_neg (by decide +kernel)]; exact ⟨rfl, rfl⟩))
    (fun os started H enc _ F => by rw [OpenClaim.pre_eq_preRow]; exact lifted os started H enc F)
/-- No parameter wants a stand-in; the program's own looks are off. -/
theorem plain (f : FuncId) (fn : Func) (hf : Tryz.pinned.checked.prog.funcNamed "weaver/weaverlaw12.PatternChecks" = some f) (hfn : Tryz.pinned.checked.prog.funcs[f]? = some fn) :
    true = Tryz.pinned.checked.prog.looks [] ∧ ∀ (j : Nat) t, fn.params[j]? = some t → Tryz.pinned.checked.prog.wantsStandIn t = false := by
  obtain rfl : f = 6 := Option.some.inj ((show Tryz.prog.funcNamed "weaver/weaverlaw12.PatternChecks" = some 6 by kernel_rfl).symm.trans hf) |>.symm
  obtain rfl : fn = Tryz.f6 := (Option.some.inj (Tryz.func6.symm.trans hfn)).symm
  refine ⟨by kernel_rfl, fun j t ht => ?_⟩
  rw [Tryz.params6] at ht
  have hm := Array.mem_of_getElem? ht
  simp at hm
  subst hm
  exact (show Tryz.prog.wantsStandIn 24 = false by kernel_rfl)
end Go.Proofs.YtjijhefmbmdbeaaGreatDoor.patternChecks
namespace Go.Proofs.YtjijhefmbmdbeaaGreatDoor
/-- The card. -/
theorem patternChecks_card : Rows.PatternChecksCardSaid :=
  Claim7.holds_tied_plain_at .later [] _ _ _ _ patternChecks.said (fun _ h => by cases h) (by kernel_rfl) (fun _ h => by cases h) patternChecks_row_tie rfl ⟨rfl, rfl⟩ (by kernel_rfl) rfl patternChecks.plain (by kernel_rfl)
end Go.Proofs.YtjijhefmbmdbeaaGreatDoor
