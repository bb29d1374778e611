/-
  Two faults held against one another.
  ExprBack: its walk.
  ExprBack is proved: for all parts and every text the law ExprBack returns true (what is written is read as the same expression; what is read can be written), and its arguments read behind the call as before. Condition: the packages' tables and words, and strconv's and math/bits' variables, read as their own texts lay them (the card ties that to the program).
-/
import Derived.Test.YthipclehhcfahaaGreatDoorChecked
import Derived.WalkKit
import Derived.WalkLawsBesides
import Derived.Test.YthipclehhcfahaaGreatDoorG29
import Derived.Deep.DeepCutAuto
import Derived.Test.YthipclehhcfahaaGreatDoorCards
import Derived.Test.YthipclehhcfahaaGreatDoorTie
import Derived.Test.YthipclehhcfahaaGreatDoorG08
import Derived.Test.YthipclehhcfahaaGreatDoorG17
import Derived.SizedLaws
import Derived.ProofKit
import Derived.OpenShut
import Derived.Deep.DeepHandedRow
import Derived.Lib.LaidTab
namespace Go.Proofs.YthipclehhcfahaaGreatDoor
open Go.RowKit

/-- Two faults held against one another. -/
theorem eqF (d : Nat) (a c a' c' : Int) (w : World) : (Op.equalIn (d + 2) 47 (.agg #[.int .i64 a, .int .i64 c]) (.agg #[.int .i64 a', .int .i64 c'])).run Tryz.prog w = .ok (a == a' && c == c') w := by
  have hi := fun (a b : Int) (w : World) => run_equalIn_int (P := Tryz.prog) w d 3 .i64 .i64 a b Tryz.underlying3
  have he := fun (a b : Int) (w : World) => run_equalIn_int (P := Tryz.prog) w d 23 .i64 .i64 a b Tryz.underlying23
  unfold Op.equalIn
  simp only [Sem.run_bind, run_underlying Tryz.underlying47, Result.andThen_ok]
  simp [part, Tryz.sizeOf3, Tryz.sizeOf23, go_sem, hi, he]
  by_cases h0 : a = a' <;> by_cases h1 : c = c' <;> simp [h0, h1]
end Go.Proofs.YthipclehhcfahaaGreatDoor
namespace Go.Proofs.YthipclehhcfahaaGreatDoor
open Go.RowKit Go.Shelf

/-- Read, with what it gives lying somewhere. -/
theorem eread_at (s : ByteArray) (hs : s.size ≤ 9223372036854775807) (W : World) (hW : TbE W) : Calls Tryz.prog 22 #[.string s] W fun e w' => ∃ ad cp, e = .returned (.tuple #[.slice ad (rdO s).x.length cp, .agg #[.int .i64 (rdO s).at_, .int .i64 (rdO s).c]]) ∧ PtsAt w' ad (rdO s).x ∧ Below W.heap.size W w' :=
  (eread_any s W hW hs).mono fun e w' ⟨⟨v, h1, h2⟩, h3⟩ => by
    obtain ⟨ad, cp, rfl, h4, _⟩ := h2.at
    exact ⟨ad, cp, h1, h4, h3⟩
theorem wrS_size (x : List Pt) (hok : ∀ p ∈ x, p.ok) : (wrS x).size ≤ 60000 := by
  unfold wrS
  split
  · show 0 ≤ _; omega
  · rename_i h
    obtain ⟨t, h1, h2, h3, h4, h5, h6⟩ := ckK_leaves h
    have hfd : fdX wrv x = some (t.val wrv) := by rw [h3]; exact fdX_flat wrv t h1
    rw [hfd]
    have := t.wr_len h1 (t.fine_leaves h2) (fun q hq => (hok q (by rw [h3]; exact hq)).2.1.2)
    rw [← h3] at this
    show (txt (t.val wrv).1).size ≤ _
    rw [txt_size]
    omega
theorem flt_eq (a c : Int) : (a == 0 && c == 0) = true → c = 0 := by intro h; simp at h; exact h.2
set_option maxHeartbeats 2000000 in
set_option maxRecDepth 100000 in
theorem eback_walk (ad : Option Addr) (cap : Nat) (x : List Pt) (s : ByteArray) (w : World) (hl : x.length ≤ 9223372036854775807) (hA : PtsAt w ad x) (hok : ∀ p ∈ x, p.ok) (hs : s.size ≤ 9223372036854775807) (hT : TbE w) :
    Calls Tryz.prog 5 #[.slice ad x.length cap, .string s] w fun e w' => e = .returned (.bool true) ∧ Kp [] w w' := by
  have hlow := hT.low
  have HA := hide hA
  have HOK := hide hok
  have HT := hide hT
  have WK := hide (eworks_any w hT)
  have RS := hide (fun W hW => eread_at s hs W hW)
  clear hA hok hT
  go_enter Tryz.func5, Tryz.ntmps5
  go_wp2_with fail
  refine (unhide WK).mono ?_
  rintro e w1 ⟨rfl, hb1⟩
  have HT1 := hide ((unhide HT).below hb1 hlow)
  have HA1 := hide ((unhide HA).kp (Kp.ofBelow hb1))
  have WR := hide (write_any ad cap x w1 (unhide HA1) (unhide HT1) (unhide HOK))
  have HB1 := hide hb1
  clear hb1 WK
  go_wp2_with fail
  refine (unhide WR).mono ?_
  rintro e w2 ⟨rfl, hb2⟩
  have HT2 := hide ((unhide HT1).below hb2 (unhide HT1).low)
  have HA2 := hide ((unhide HA1).kp (Kp.ofBelow hb2))
  have HB2 := hide ((unhide HB1).trans (hb2.mono (unhide HB1).size))
  clear hb2 WR HB1 HT1 HA1
  go_upto_if 23 with fail
  go_cut [5, 6] (fun _ _ wc => Hid (Below w.heap.size w wc))
  case first =>
    by_cases h0 : ckK x = 0
    · have hw : wrS x = ⟨#[]⟩ := by unfold wrS; rw [if_pos h0]
      rw [if_pos h0, hw]
      clear h0 hw
      go_wp2
      go_meet
      exact HB2
    · rw [if_neg h0]
      have RW := hide (fun W hW => eread_at (wrS x) (by have := wrS_size x (unhide HOK); omega) W hW)
      rw [write_read h0 (unhide HOK)] at RW
      dsimp only at RW
      generalize wrS x = S at *
      have RW2 := hide (unhide RW w2 (unhide HT2))
      have SM := hide (fun a1 a2 c1 c2 W => same_any a1 a2 c1 c2 x x W hl)
      rw [ptsEq_self] at SM
      clear h0 RW
      go_wp2_with fail
      refine (unhide RW2).mono ?_
      rintro e w3 ⟨a3, c3, rfl, hA3, hb3⟩
      have k3 : Kp [] w3 (w3.alloc (.cells #[.int .i64 0, .int .i64 0] 47)) := Kp.alloc _ _
      have HB3 := hide (((unhide HB2).trans (hb3.mono (unhide HB2).size)).alloc (by have := (unhide HB2).size; have := hb3.size; omega) (.cells #[.int .i64 0, .int .i64 0] 47))
      have SM2 := hide (unhide SM ad a3 cap c3 _ (((unhide HA2).kp (Kp.ofBelow hb3)).kp k3) (hA3.kp k3))
      clear hb3 hA3 RW2 SM
      go_wp2_with (go_at_call 16; refine (unhide SM2).mono ?_; rintro e w4 ⟨rfl, hk4⟩; have HB4 : Hid (Below w.heap.size w w4) := hide ((unhide HB3).trans (hk4.below (unhide HB3).size (by simp))); clear hk4 SM2)
      go_meet
      exact HB4
  case rest =>
    have HTc := hide ((unhide HT).below (unhide hcut) hlow)
    have RS2 := hide (unhide RS wc (unhide HTc))
    have HOY := hide (read_ok s)
    have HLY := hide (read_len (s := s))
    have HMY := hide (fun (h : (rdO s).c = 0) => And.intro (read_may h) (read_at h))
    have HNY := hide (fun (h : (rdO s).c ≠ 0) => read_none h)
    clear HA2 HT2 HB2 HA HOK RS HTc
    generalize (rdO s).x = y at *
    generalize (rdO s).at_ = A at *
    generalize (rdO s).c = C at *
    have HCW := hide (unhide hcut)
    clear hcut
    by_cases hC : C = 0
    · subst hC
      obtain ⟨hm, rfl⟩ := unhide HMY rfl
      have HM := hide hm
      clear HMY HNY hm
      go_wp2_with fail
      refine (unhide RS2).mono ?_
      rintro e w3 ⟨a3, c3, rfl, hA3, hb3⟩
      have k3 : Kp [] w3 (w3.alloc (.cells #[.int .i64 0, .int .i64 0] 47)) := Kp.alloc _ _
      have HB3 := hide (((unhide HCW).trans (hb3.mono (unhide HCW).size)).alloc (by have := (unhide HCW).size; have := hb3.size; omega) (.cells #[.int .i64 0, .int .i64 0] 47))
      have HT3 := hide ((unhide HT).below (unhide HB3) hlow)
      have HA3 := hide (hA3.kp k3)
      have WR := hide (write_any a3 c3 y _ (unhide HA3) (unhide HT3) (unhide HOY))
      rw [if_neg (unhide HM)] at WR
      have RW := hide (fun W hW => eread_at (wrS y) (by have := wrS_size y (unhide HOY); omega) W hW)
      rw [write_read (unhide HM) (unhide HOY)] at RW
      dsimp only at RW
      generalize wrS y = S at *
      have hly : y.length ≤ 200 := unhide HLY
      clear hb3 hA3 k3 RS2 HM HLY HOY HCW
      go_wp2_with fail
      refine (unhide WR).mono ?_
      rintro e w4 ⟨rfl, hb4⟩
      have HB4 := hide ((unhide HB3).trans (hb4.mono (unhide HB3).size))
      have HA4 := hide ((unhide HA3).kp (Kp.ofBelow hb4))
      have RW2 := hide (unhide RW w4 ((unhide HT).below (unhide HB4) hlow))
      clear hb4 HB3 HA3 WR RW HT3
      go_wp2_with fail
      refine (unhide RW2).mono ?_
      rintro e w5 ⟨a5, c5, rfl, hA5, hb5⟩
      have k5 : Kp [] w5 (w5.alloc (.cells #[.int .i64 0, .int .i64 0] 47)) := Kp.alloc _ _
      have HB5 := hide (((unhide HB4).trans (hb5.mono (unhide HB4).size)).alloc (by have := (unhide HB4).size; have := hb5.size; omega) (.cells #[.int .i64 0, .int .i64 0] 47))
      have SM := hide (same_any a3 a5 c3 c5 y y _ (by omega) (((unhide HA4).kp (Kp.ofBelow hb5)).kp k5) (hA5.kp k5))
      rw [ptsEq_self] at SM
      clear hb5 hA5 k5 HB4 HA4 RW2
      go_wp2_with (go_at_call 16; refine (unhide SM).mono ?_; rintro e w6 ⟨rfl, hk6⟩; have HB6 : Hid (Kp [] w w6) := hide ((Kp.ofBelow (unhide HB5)).trans hk6 (by simp)); clear hk6 SM)
      go_ret
      exact ⟨rfl, unhide HB6⟩
    · obtain rfl := unhide HNY hC
      have g : (C == 0) = false := beq_eq_false_iff_ne.2 hC
      have EQ : ∀ W, (Op.equalIn 10000 47 (.agg #[.int .i64 A, .int .i64 C]) (.agg #[.int .i64 0, .int .i64 0])).run Tryz.prog W = .ok false W := fun W => by rw [eqF 9998, g, Bool.and_false]
      clear HMY HNY hC g
      go_wp2_with fail
      refine (unhide RS2).mono ?_
      rintro e w3 ⟨a3, c3, rfl, hA3, hb3⟩
      have HB3 := hide (((unhide HCW).trans (hb3.mono (unhide HCW).size)).alloc (by have := (unhide HCW).size; have := hb3.size; omega) (.cells #[.int .i64 A, .int .i64 C] 47))
      clear hb3 hA3 RS2 HCW
      go_wp2
      go_ret
      exact ⟨rfl, Kp.ofBelow (unhide HB3)⟩
end Go.Proofs.YthipclehhcfahaaGreatDoor
namespace Go.Proofs.YthipclehhcfahaaGreatDoor.exprBack
open Go.ChangeShapes Go.WideShapes Go.ChangeAt Go.RowKit
open Go.ChangeMaps (open_string shut_string)

theorem own : ownKnob Tryz.prog.godebug = none := by kernel_rfl
theorem laidOut : laidOutB Tryz.prog = true := by kernel_rfl
set_option maxRecDepth 100000 in
/-- What the walk gives, for every argument and every world that holds the table. -/
theorem contract (H : Type) (enc : TypeId × Value → H) (W : World) (base : Nat) (args : Array Value) (ds gs : List (DataW H)) (before : List MemPlace)
    (hval : ∀ (j : Nat) t v, Tryz.f5.params[j]? = some t → args[j]? = some v → Value.okWide Tryz.prog W .any base t v)
    (hW : DataW.Whole enc Tryz.prog Tryz.f5.params.toList Rows.exprBackSpec.vars false W args.toList ds gs before) (hL : laidMetH Tryz.prog Rows.exprBackRow.laid W) :
    Calls Tryz.prog 5 args W fun e W' => ∃ v, e = .returned v ∧ Rows.exprBackSpec.post enc Tryz.prog Tryz.f5 false true false false W args v W' := by
  have hW' := hW
  obtain ⟨p, q, hA0, hV, rfl, hfz, hnd⟩ := hW
  have hA : DataW.TrodAll enc Tryz.prog W 0 (fun _ => true) true Tryz.f5.params.toList args.toList ds p := hA0
  rw [Tryz.params5] at hA hval
  obtain ⟨v0, vs0, d0, ds0, p0, q0, hargs, rfl, rfl, h0, r0⟩ := trodAll_cons hA
  obtain ⟨v1, vs1, d1, ds1, p1, q1, rfl, rfl, rfl, h1, r1⟩ := trodAll_cons r0
  obtain ⟨rfl, rfl, rfl⟩ := trodAll_nil r1
  obtain rfl : args = #[v0, v1] := by cases args; simp_all
  obtain ⟨rfl, rfl⟩ := trodVars_none hV
  have h0k := h0
  obtain ⟨a0, len0, cp0, rfl⟩ := okWide_slice Tryz.underlying22 (hval 0 22 v0 rfl rfl)
  obtain ⟨fuel0, hf0⟩ := h0
  obtain ⟨ad0, cap0, l0, hv0, hl0, hI0, hok0⟩ := open_pts (v := .slice a0 len0 cp0) (by simpa [Value.cells] using hf0)
  rw [hv0] at hW' h0k ⊢
  clear hf0 hv0
  obtain ⟨s1, rfl, rfl, rfl, hs1⟩ := open_string Tryz.underlying9 (hval 1 9 v1 rfl rfl) h1
  clear hA0
  simp only [List.append_nil] at hW'
  have hlt0 : ∀ x ∈ p0, x.block < W.heap.size := fun x hx => by simpa using hW'.lt x (by simp [hx])
  refine (eback_walk ad0 cap0 l0 s1 W hl0 hI0 hok0 (by unfold maxLen at hs1; omega) (tbE hL)).mono fun e W' ⟨he, hg0⟩ => ?_
  subst he
  have hg := hg0.below (Nat.le_refl W.heap.size) (by simp)
  exact ⟨_, rfl, _, _, _, [], p0 ++ ([] ++ []), [], hW', trodAll_cons_mk (shut_bool Tryz.underlying4 _) trodAll_mk0, trodAll_cons_mk (Below.trod laidOut (by kernel_rfl) (of_decide_eq_true (by kernel_rfl)) h0k hg hlt0) (trodAll_cons_mk (shut_string Tryz.underlying9 hs1) trodAll_mk0), rfl, hg.frame _, fun h => by cases h⟩

theorem laid_met (os : Os) : laidMet Tryz.prog Rows.exprBackRow.laid ({ World.holding Tryz.prog os ⟨errBlks, #[], []⟩ with heap := putL (World.holding Tryz.prog os ⟨errBlks, #[], []⟩).heap }.forCall (fun _ _ => 0) ⟨#[], #[.slice none 0 0, .string ⟨#[]⟩], []⟩).memory :=
  laidMet_of_run' 8 (by kernel_rfl) (by kernel_rfl)
theorem reads (os : Os) {H : Type} (enc : TypeId × Value → H) : ∃ places, DataW.whole enc Tryz.prog ({ World.holding Tryz.prog os ⟨errBlks, #[], []⟩ with heap := putL (World.holding Tryz.prog os ⟨errBlks, #[], []⟩).heap }.forCall (fun _ _ => 0) ⟨#[], #[.slice none 0 0, .string ⟨#[]⟩], []⟩).memory Tryz.f5.params.toList Rows.exprBackSpec.vars false #[Value.slice none 0 0, Value.string ⟨#[]⟩].toList 8 = some ([.nil, .lit (.string [])], [], places) :=
  ⟨[], by kernel_rfl⟩
set_option maxRecDepth 100000 in
theorem lifted (os : Os) (started : os.Started) (H : Type) (enc : TypeId × Value → H) (F : Stop.Interp) :
    ReturnsInHanded {} Tryz.checked os 5 .any ((OpenSpec.ofChange Rows.exprBackSpec).preRow enc Tryz.prog Tryz.f5 Rows.exprBackRow.domain false Rows.exprBackRow.laid) (((OpenSpec.ofChange Rows.exprBackSpec).at F).post enc Tryz.prog Tryz.f5 false true false false) := by
  obtain ⟨places, hx⟩ := reads os enc
  refine returnsInHanded_of_row (C := Tryz.checked) (s := OpenSpec.ofChange Rows.exprBackSpec) own started (by kernel_rfl) Tryz.func5
    (witness_row_at (enc := enc) (C := Tryz.checked) false { World.holding Tryz.prog os ⟨errBlks, #[], []⟩ with heap := putL (World.holding Tryz.prog os ⟨errBlks, #[], []⟩).heap } #[.slice none 0 0, .string ⟨#[]⟩] rfl (by kernel_rfl) (by kernel_rfl) (by kernel_rfl)
      (OpenSpec.preRow_of_cond 8 hx (by kernel_rfl) (fun k hk => by cases hk) (by kernel_rfl) (laid_met os))) ?_
  intro W base args ds gs before hval hW _ _ _ hL _ _
  exact contract H enc W base args ds gs before hval hW hL
theorem said : Rows.ExprBackSaid :=
  OpenClaim.holds_of_cond 5 Tryz.f5 rfl rfl rfl rfl rfl rfl rfl ⟨rfl, rfl, rfl, rfl, rfl⟩ rfl rfl rfl rfl rfl (by kernel_rfl) Tryz.func5 (by kernel_rfl)
    (of_decide_eq_true (by kernel_rfl)) (by unfold Func.isWrapper; first | (rw [if_pos (by decide +kernel)]; kernel_rfl) | (rw [if_neg (by decide +kernel)]; exact ⟨rfl, rfl⟩))
    (fun os started H enc _ F => by rw [OpenClaim.pre_eq_preRow]; exact lifted os started H enc F)
/-- No parameter wants a stand-in; the program's own looks are off. -/
theorem plain (f : FuncId) (fn : Func) (hf : Tryz.pinned.checked.prog.funcNamed "weaver/weaverlaw11.ExprBack" = some f) (hfn : Tryz.pinned.checked.prog.funcs[f]? = some fn) :
    true = Tryz.pinned.checked.prog.looks [] ∧ ∀ (j : Nat) t, fn.params[j]? = some t → Tryz.pinned.checked.prog.wantsStandIn t = false := by
  obtain rfl : f = 5 := Option.some.inj ((show Tryz.prog.funcNamed "weaver/weaverlaw11.ExprBack" = some 5 by kernel_rfl).symm.trans hf) |>.symm
  obtain rfl : fn = Tryz.f5 := (Option.some.inj (Tryz.func5.symm.trans hfn)).symm
  refine ⟨by kernel_rfl, fun j t ht => ?_⟩
  rw [Tryz.params5] at ht
  have hm := Array.mem_of_getElem? ht
  simp at hm
  rcases hm with rfl | rfl
  · exact (show Tryz.prog.wantsStandIn 22 = false by kernel_rfl)
  · exact (show Tryz.prog.wantsStandIn 9 = false by kernel_rfl)
end Go.Proofs.YthipclehhcfahaaGreatDoor.exprBack
namespace Go.Proofs.YthipclehhcfahaaGreatDoor
/-- The card. -/
theorem exprBack_card : Rows.ExprBackCardSaid :=
  Claim7.holds_tied_plain_at .later [] _ _ _ _ exprBack.said (fun _ h => by cases h) (by kernel_rfl) (fun _ h => by cases h) exprBack_row_tie rfl ⟨rfl, rfl⟩ (by kernel_rfl) rfl exprBack.plain (by kernel_rfl)
end Go.Proofs.YthipclehhcfahaaGreatDoor
