/-
  ExprBinds: its walk.
  ExprBinds is proved: for all numbers the law ExprBinds returns true (how operations bind: brackets that stand as the grammar reads change nothing; others change what is read). Condition: the packages' tables and words, and strconv's and math/bits' variables, read as their own texts lay them (the card ties that to the program).
-/
import Derived.Test.YthipclehhcfahabGreatDoorGb31
import Derived.Test.YthipclehhcfahabGreatDoorGb33
import Derived.Test.YthipclehhcfahabGreatDoorCards
import Derived.Test.YthipclehhcfahabGreatDoorTie
import Derived.Test.YthipclehhcfahabGreatDoorGb08
import Derived.SizedLaws
import Derived.ProofKit
import Derived.OpenShut
import Derived.Deep.DeepHandedRow
import Derived.Lib.LaidTab
namespace Go.Proofs.YthipclehhcfahabGreatDoor
open Go.RowKit Go.Shelf

/-- The law's rows as cells. -/
def binC : Array Value := (binS.map Value.string).toArray
theorem binC_at (j : Nat) {s : ByteArray} (h : binS[j]? = some s) : binC[j]? = some (.string s) := by
  unfold binC
  rw [List.getElem?_toArray, List.getElem?_map, h]
  rfl
theorem three_cells {g : Nat} {a b c : Value} {t : TypeId} {w : World} (h : CBox g #[a, b, c] t w) : w.cell? ⟨g, 0, none⟩ = some a ∧ w.cell? ⟨g, 1, none⟩ = some b ∧ w.cell? ⟨g, 2, none⟩ = some c := ⟨h.cell rfl, h.cell rfl, h.cell rfl⟩
/-- Read of a text that is read. -/
theorem eread_ok {s : ByteArray} (hs : s.size ≤ 9223372036854775807) (hc : (rdO s).c = 0) (W : World) (hW : TbE W) : Calls Tryz.prog 10 #[.string s] W fun e w' => ∃ ad cp, e = .returned (.tuple #[.slice ad (rdO s).x.length cp, .agg #[.int .i64 0, .int .i64 0]]) ∧ PtsAt w' ad (rdO s).x ∧ Below W.heap.size W w' := by
  have := eread_at s hs W hW
  rw [hc, read_at hc] at this
  exact this
set_option maxHeartbeats 4000000 in
set_option maxRecDepth 100000 in
theorem ebinds_walk (a b : Int) (w : World) (h1 : -9223372036854775808 ≤ a) (h2 : a ≤ 9223372036854775807) (hT : TbE w) :
    Calls Tryz.prog 3 #[.int .i64 a, .int .i64 b] w fun e w' => e = .returned (.bool true) ∧ Kp [] w w' := by
  have HT := hide hT
  have WK := hide (eworks_any w hT)
  have HLA := hide (bin_last a b h1 h2)
  clear hT h1 h2
  go_enter Tryz.func3, Tryz.ntmps3
  go_wp2_with fail
  refine (unhide WK).mono ?_
  rintro e w1 ⟨rfl, hb1⟩
  have HB1 := hide hb1
  clear hb1 WK
  go_wp2_with fail
  have q2 : CBox w1.heap.size binC 23 (w1.alloc (.cells binC 23)) := CBox.new w1 _ _
  have HB2 := hide ((unhide HB1).alloc (unhide HB1).size (.cells binC 23))
  have HQ2 := hide q2
  clear q2 HB1
  unfold binC binS at HQ2 HB2
  simp only [List.map_cons, List.map_nil] at HQ2 HB2
  generalize (w1.alloc _) = W0 at *
  go_loopw [26] (fun i wr => ∃ k : Nat, k ≤ 5 ∧ i = .int .i64 (k : Int) ∧ Below W0.heap.size W0 wr) (fun i _ => 5 - (intOf i).toNat)
  case atStart => exact ⟨0, by omega, rfl, Below.refl _ _⟩
  case round =>
    obtain ⟨k, hk, rfl, hb⟩ := hrel
    by_cases hlt : k < 5
    · obtain ⟨s, t, u, hs, ht, hu, ⟨⟨r1, r2, r3⟩, e1, e2⟩⟩ := bin_ok k hlt
      have hq : CBox w1.heap.size binC 23 W0 := unhide HQ2
      have hq2 := hq.kp (Kp.ofBelow hb) (by simp)
      have c0 := hq2.cell (binC_at _ hs)
      have c1 := hq2.cell (binC_at _ ht)
      have c2 := hq2.cell (binC_at _ hu)
      have RS := hide (fun W hW => eread_ok (binS_size s (List.mem_of_getElem? hs)) r1 W hW)
      have RT := hide (fun W hW => eread_ok (binS_size t (List.mem_of_getElem? ht)) r2 W hW)
      have RU := hide (fun W hW => eread_ok (binS_size u (List.mem_of_getElem? hu)) r3 W hW)
      have hl1 := read_len (s := s)
      have S1 := hide (fun a1 a2 c1 c2 W => same_any a1 a2 c1 c2 (rdO s).x (rdO t).x W (by omega))
      have S2 := hide (fun a1 a2 c1 c2 W => same_any a1 a2 c1 c2 (rdO s).x (rdO u).x W (by omega))
      rw [e1] at S1
      rw [e2] at S2
      generalize (rdO s).x = y at *
      generalize (rdO t).x = z at *
      generalize (rdO u).x = v at *
      have hli : (k : Int) < 5 := by omega
      have hb2 : Below W0.heap.size W0 (wr.alloc (.cells #[.string s, .string t, .string u] 23)) := hb.alloc hb.size _
      have hbw : Below w.heap.size w (wr.alloc (.cells #[.string s, .string t, .string u] 23)) := (unhide HB2).trans (hb2.mono (unhide HB2).size)
      have RS2 := hide (unhide RS _ ((unhide HT).below hbw (unhide HT).low))
      have HB3 := hide hb2
      have HBW := hide hbw
      have zb : CBox wr.heap.size #[.string s, .string t, .string u] 23 (wr.alloc (.cells #[.string s, .string t, .string u] 23)) := CBox.new wr _ _
      clear hs ht hu r1 r2 r3 e1 e2 hq hq2 RS hb hb2 hbw
      go_wp2_with fail
      refine (unhide RS2).mono ?_
      rintro e w3 ⟨a3, c3, rfl, hA3, hb3⟩
      have hb4 : Below (wr.alloc (.cells #[.string s, .string t, .string u] 23)).heap.size (wr.alloc (.cells #[.string s, .string t, .string u] 23)) (w3.alloc (.cells #[.int .i64 0, .int .i64 0] 28)) := hb3.alloc hb3.size _
      have HB5 := hide ((unhide HB3).trans (hb4.mono (unhide HB3).size))
      have HBW5 := hide ((unhide HBW).trans (hb4.mono (unhide HBW).size))
      have zb4 := zb.kp (Kp.ofBelow hb4) (by simp)
      obtain ⟨z0, z1, z2⟩ := three_cells zb4
      have fb : FBox w3.heap.size (w3.alloc (.cells #[.int .i64 0, .int .i64 0] 28)) := CBox.new w3 _ _
      have HA3 := hide (hA3.kp (Kp.alloc w3 (.cells #[.int .i64 0, .int .i64 0] 28)))
      have RT2 := hide (unhide RT _ ((unhide HT).below (unhide HBW5) (unhide HT).low))
      clear hb3 hb4 HB3 HBW zb RS2 hA3 RT c0 c1 c2
      go_wp2_with fail
      refine (unhide RT2).mono ?_
      rintro e w4 ⟨a4, c4, rfl, hA4, hb4⟩
      have hb5 : Below (w3.alloc (.cells #[.int .i64 0, .int .i64 0] 28)).heap.size (w3.alloc (.cells #[.int .i64 0, .int .i64 0] 28)) (w4.alloc (.cells #[.int .i64 0, .int .i64 0] 28)) := hb4.alloc hb4.size _
      have HB6 := hide ((unhide HB5).trans (hb5.mono (unhide HB5).size))
      have HBW6 := hide ((unhide HBW5).trans (hb5.mono (unhide HBW5).size))
      have zb5 := zb4.kp (Kp.ofBelow hb5) (by simp)
      have fb5 := fb.below hb5 fb.lt
      have gb5 : FBox w4.heap.size (w4.alloc (.cells #[.int .i64 0, .int .i64 0] 28)) := CBox.new w4 _ _
      have HA5 := hide (And.intro ((unhide HA3).kp (Kp.ofBelow hb5)) (hA4.kp (Kp.alloc w4 (.cells #[.int .i64 0, .int .i64 0] 28))))
      have RU2 := hide (unhide RU _ ((unhide HT).below (unhide HBW6) (unhide HT).low))
      clear z0 z1 z2 hb4 hb5 HB5 HBW5 zb4 fb HA3 hA4 RT2 RU
      obtain ⟨z0, z1, z2⟩ := three_cells zb5
      go_wp2_with fail
      refine (unhide RU2).mono ?_
      rintro e w5 ⟨a5, c5, rfl, hA6, hb5⟩
      have hb6 : Below (w4.alloc (.cells #[.int .i64 0, .int .i64 0] 28)).heap.size (w4.alloc (.cells #[.int .i64 0, .int .i64 0] 28)) (w5.alloc (.cells #[.int .i64 0, .int .i64 0] 28)) := hb5.alloc hb5.size _
      have HB7 := hide ((unhide HB6).trans (hb6.mono (unhide HB6).size))
      have fb6 := fb5.below hb6 fb5.lt
      have gb6 := gb5.below hb6 gb5.lt
      have kb6 : FBox w5.heap.size (w5.alloc (.cells #[.int .i64 0, .int .i64 0] 28)) := CBox.new w5 _ _
      have HA7 := hide (And.intro ((unhide HA5).1.kp (Kp.ofBelow hb6)) (And.intro ((unhide HA5).2.kp (Kp.ofBelow hb6)) (hA6.kp (Kp.alloc w5 (.cells #[.int .i64 0, .int .i64 0] 28)))))
      clear z0 z1 z2 hb5 hb6 HB6 HBW6 zb5 fb5 gb5 HA5 hA6 RU2
      obtain ⟨f0, f1, _, _⟩ := fb6.cells
      obtain ⟨g0, g1, _, _⟩ := gb6.cells
      obtain ⟨k0, k1, _, _⟩ := kb6.cells
      have SM1 := hide (unhide S1 a3 a4 c3 c4 (w5.alloc (.cells #[.int .i64 0, .int .i64 0] 28)) (unhide HA7).1 (unhide HA7).2.1)
      have HS2 := hide (fun W (hk : Kp [] (w5.alloc (.cells #[.int .i64 0, .int .i64 0] 28)) W) => unhide S2 a3 a5 c3 c5 W ((unhide HA7).1.kp hk) ((unhide HA7).2.2.kp hk))
      clear S1 S2 HA7 fb6 gb6 kb6
      go_wp2_with fail
      refine (unhide SM1).mono ?_
      rintro e w6 ⟨rfl, hk6⟩
      have SM2 := hide (unhide HS2 w6 hk6)
      have HB8 := hide ((unhide HB7).trans (hk6.below (unhide HB7).size (by simp)))
      clear hk6 HS2 SM1 HB7 f0 f1 g0 g1 k0 k1
      go_wp2_with fail
      refine (unhide SM2).mono ?_
      rintro e w7 ⟨rfl, hk7⟩
      have HB9 := hide ((unhide HB8).trans (hk7.below (unhide HB8).size (by simp)))
      clear hk7 SM2 HB8
      go_wp2
      go_roundw
      case rel => exact ⟨k + 1, by omega, by go_num, unhide HB9⟩
      case measure => simp [intOf]; omega
    · have hbw := (unhide HB2).trans (hb.mono (unhide HB2).size)
      obtain ⟨l1, l2, l3⟩ := unhide HLA
      have RL := hide (eread_ok (s := binL) (by decide) l1 wr ((unhide HT).below hbw (unhide HT).low))
      have HOY := hide (read_ok binL)
      have HZ : Hid (hdE (rdO binL).x ⟨binV a b, [], []⟩ = 0 ∧ hdB (rdO binL).x ⟨binV a b, [], []⟩ = true) := hide ⟨l2, l3⟩
      have HBW := hide hbw
      clear hb hbw l1 l2 l3 HLA
      generalize (rdO binL).x = y at *
      unfold binL at RL
      go_wp2_with fail
      refine (unhide RL).mono ?_
      rintro e w3 ⟨a3, c3, rfl, hA3, hb3⟩
      have HBW3 := hide (((unhide HBW).trans (hb3.mono (unhide HBW).size)).alloc (by have := (unhide HBW).size; have := hb3.size; omega) (.cells #[.int .i64 0, .int .i64 0] 28))
      have fb : FBox w3.heap.size (w3.alloc (.cells #[.int .i64 0, .int .i64 0] 28)) := CBox.new w3 _ _
      have HD := hide (holds_any a3 none none c3 0 0 y (binV a b) [] [] (w3.alloc (.cells #[.int .i64 0, .int .i64 0] 28)) (hA3.kp (Kp.alloc _ _)) (fun h => absurd rfl h) (by simp) (fun h => absurd rfl h) ((unhide HT).below (unhide HBW3) (unhide HT).low) (fun p hp => (unhide HOY p hp).2.2.2.1))
      rw [(unhide HZ).1, (unhide HZ).2] at HD
      have hcc : (binV a b).c = #[.string ⟨#[]⟩, .string ⟨#[]⟩, .int .i64 a, .int .i64 b, .int .i64 0, .int .i64 0, .string ⟨#[]⟩] := rfl
      rw [hcc] at HD
      clear hcc hb3 hA3 RL HZ HBW
      go_wp2_with fail
      refine (unhide HD).mono ?_
      rintro e w4 ⟨rfl, hb4⟩
      obtain ⟨f0, f1, _, _⟩ := (fb.below hb4 fb.lt).cells
      have HK := hide (Kp.ofBelow ((unhide HBW3).trans (hb4.mono (unhide HBW3).size)))
      clear hb4 HD fb
      go_wp2
      go_ret
      exact ⟨rfl, unhide HK⟩
end Go.Proofs.YthipclehhcfahabGreatDoor
namespace Go.Proofs.YthipclehhcfahabGreatDoor.exprBinds
open Go.ChangeShapes Go.WideShapes Go.ChangeAt Go.RowKit
open Go.ChangeMaps (open_string shut_string)

theorem own : ownKnob Tryz.prog.godebug = none := by kernel_rfl
theorem laidOut : laidOutB Tryz.prog = true := by kernel_rfl
set_option maxRecDepth 100000 in
/-- What the walk gives, for every argument and every world that holds the table. -/
theorem contract (H : Type) (enc : TypeId × Value → H) (W : World) (base : Nat) (args : Array Value) (ds gs : List (DataW H)) (before : List MemPlace)
    (hval : ∀ (j : Nat) t v, Tryz.f3.params[j]? = some t → args[j]? = some v → Value.okWide Tryz.prog W .any base t v)
    (hW : DataW.Whole enc Tryz.prog Tryz.f3.params.toList Rows.exprBindsSpec.vars false W args.toList ds gs before) (hL : laidMetH Tryz.prog Rows.exprBindsRow.laid W) :
    Calls Tryz.prog 3 args W fun e W' => ∃ v, e = .returned v ∧ Rows.exprBindsSpec.post enc Tryz.prog Tryz.f3 false true false false W args v W' := by
  have hW' := hW
  obtain ⟨p, q, hA0, hV, rfl, hfz, hnd⟩ := hW
  have hA : DataW.TrodAll enc Tryz.prog W 0 (fun _ => true) true Tryz.f3.params.toList args.toList ds p := hA0
  rw [Tryz.params3] at hA hval
  obtain ⟨v0, vs0, d0, ds0, p0, q0, hargs, rfl, rfl, h0, r0⟩ := trodAll_cons hA
  obtain ⟨v1, vs1, d1, ds1, p1, q1, rfl, rfl, rfl, h1, r1⟩ := trodAll_cons r0
  obtain ⟨rfl, rfl, rfl⟩ := trodAll_nil r1
  obtain rfl : args = #[v0, v1] := by cases args; simp_all
  obtain ⟨rfl, rfl⟩ := trodVars_none hV
  obtain ⟨x0, rfl, rfl, rfl, wx0⟩ := open_int Tryz.underlying2 (hval 0 2 v0 rfl rfl) h0
  obtain ⟨x1, rfl, rfl, rfl, wx1⟩ := open_int Tryz.underlying2 (hval 1 2 v1 rfl rfl) h1
  clear hA0
  simp only [List.append_nil] at hW'
  refine (ebinds_walk x0 x1 W (by have := bounds_i64 wx0; omega) (by have := bounds_i64 wx0; omega) (tbE hL)).mono fun e W' ⟨he, hg0⟩ => ?_
  subst he
  have hg := hg0.below (Nat.le_refl W.heap.size) (by simp)
  exact ⟨_, rfl, _, _, _, [], [], [], hW', trodAll_cons_mk (shut_bool Tryz.underlying4 _) trodAll_mk0, trodAll_cons_mk (shut_int Tryz.underlying2 wx0) (trodAll_cons_mk (shut_int Tryz.underlying2 wx1) trodAll_mk0), rfl, hg.frame _, fun h => by cases h⟩

theorem laid_met (os : Os) : laidMet Tryz.prog Rows.exprBindsRow.laid ({ World.holding Tryz.prog os ⟨errBlks, #[], []⟩ with heap := putL (World.holding Tryz.prog os ⟨errBlks, #[], []⟩).heap }.forCall (fun _ _ => 0) ⟨#[], #[.int .i64 0, .int .i64 0], []⟩).memory :=
  laidMet_of_run' 8 (by kernel_rfl) (by kernel_rfl)
theorem reads (os : Os) {H : Type} (enc : TypeId × Value → H) : ∃ places, DataW.whole enc Tryz.prog ({ World.holding Tryz.prog os ⟨errBlks, #[], []⟩ with heap := putL (World.holding Tryz.prog os ⟨errBlks, #[], []⟩).heap }.forCall (fun _ _ => 0) ⟨#[], #[.int .i64 0, .int .i64 0], []⟩).memory Tryz.f3.params.toList Rows.exprBindsSpec.vars false #[Value.int .i64 0, Value.int .i64 0].toList 8 = some ([.lit (.int .i64 0), .lit (.int .i64 0)], [], places) :=
  ⟨[], by kernel_rfl⟩
set_option maxRecDepth 100000 in
theorem lifted (os : Os) (started : os.Started) (H : Type) (enc : TypeId × Value → H) (F : Stop.Interp) :
    ReturnsInHanded {} Tryz.checked os 3 .any ((OpenSpec.ofChange Rows.exprBindsSpec).preRow enc Tryz.prog Tryz.f3 Rows.exprBindsRow.domain false Rows.exprBindsRow.laid) (((OpenSpec.ofChange Rows.exprBindsSpec).at F).post enc Tryz.prog Tryz.f3 false true false false) := by
  obtain ⟨places, hx⟩ := reads os enc
  refine returnsInHanded_of_row (C := Tryz.checked) (s := OpenSpec.ofChange Rows.exprBindsSpec) own started (by kernel_rfl) Tryz.func3
    (witness_row_at (enc := enc) (C := Tryz.checked) false { World.holding Tryz.prog os ⟨errBlks, #[], []⟩ with heap := putL (World.holding Tryz.prog os ⟨errBlks, #[], []⟩).heap } #[.int .i64 0, .int .i64 0] rfl (by kernel_rfl) (by kernel_rfl) (by kernel_rfl)
      (OpenSpec.preRow_of_cond 8 hx (by kernel_rfl) (fun k hk => by cases hk) (by kernel_rfl) (laid_met os))) ?_
  intro W base args ds gs before hval hW _ _ _ hL _ _
  exact contract H enc W base args ds gs before hval hW hL
theorem said : Rows.ExprBindsSaid :=
  OpenClaim.holds_of_cond 3 Tryz.f3 rfl rfl rfl rfl rfl rfl rfl ⟨rfl, rfl, rfl, rfl, rfl⟩ rfl rfl rfl rfl rfl (by kernel_rfl) Tryz.func3 (by kernel_rfl)
    (of_decide_eq_true (by kernel_rfl)) (by unfold Func.isWrapper; first | (rw [if_pos (by decide +kernel)]; kernel_rfl) | (rw [if_neg (by decide +kernel)]; exact ⟨rfl, rfl⟩))
    (fun os started H enc _ F => by rw [OpenClaim.pre_eq_preRow]; exact lifted os started H enc F)
/-- No parameter wants a stand-in; the program's own looks are off. -/
theorem plain (f : FuncId) (fn : Func) (hf : Tryz.pinned.checked.prog.funcNamed "weaver/weaverlaw11.ExprBinds" = some f) (hfn : Tryz.pinned.checked.prog.funcs[f]? = some fn) :
    true = Tryz.pinned.checked.prog.looks [] ∧ ∀ (j : Nat) t, fn.params[j]? = some t → Tryz.pinned.checked.prog.wantsStandIn t = false := by
  obtain rfl : f = 3 := Option.some.inj ((show Tryz.prog.funcNamed "weaver/weaverlaw11.ExprBinds" = some 3 by kernel_rfl).symm.trans hf) |>.symm
  obtain rfl : fn = Tryz.f3 := (Option.some.inj (Tryz.func3.symm.trans hfn)).symm
  refine ⟨by kernel_rfl, fun j t ht => ?_⟩
  rw [Tryz.params3] at ht
  have hm := Array.mem_of_getElem? ht
  simp at hm
  subst hm
  exact (show Tryz.prog.wantsStandIn 2 = false by kernel_rfl)
end Go.Proofs.YthipclehhcfahabGreatDoor.exprBinds
namespace Go.Proofs.YthipclehhcfahabGreatDoor
/-- The card. -/
theorem exprBinds_card : Rows.ExprBindsCardSaid :=
  Claim7.holds_tied_plain_at .later [] _ _ _ _ exprBinds.said (fun _ h => by cases h) (by kernel_rfl) (fun _ h => by cases h) exprBinds_row_tie rfl ⟨rfl, rfl⟩ (by kernel_rfl) rfl exprBinds.plain (by kernel_rfl)
end Go.Proofs.YthipclehhcfahabGreatDoor
