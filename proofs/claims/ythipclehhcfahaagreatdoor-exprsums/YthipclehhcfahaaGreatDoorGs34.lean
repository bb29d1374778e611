/-
  Two faults held against one another.
  ExprBack: its walk.
  ExprSums: its walk.
  ExprSums is proved: for all numbers the law ExprSums returns true (numbers are reckoned modulo 2^64: sums and products do not hang on the order, a difference is undone by a sum). Condition: the packages' tables and words, and strconv's and math/bits' variables, read as their own texts lay them (the card ties that to the program).
-/
import Derived.Test.YthipclehhcfahaaGreatDoorChecked
import Derived.WalkKit
import Derived.WalkLawsBesides
import Derived.Test.YthipclehhcfahaaGreatDoorGs33
import Derived.Deep.DeepCutAuto
import Derived.Test.YthipclehhcfahaaGreatDoorGs31
import Derived.Test.YthipclehhcfahaaGreatDoorCards
import Derived.Test.YthipclehhcfahaaGreatDoorTie
import Derived.Test.YthipclehhcfahaaGreatDoorGs08
import Derived.SizedLaws
import Derived.ProofKit
import Derived.OpenShut
import Derived.Deep.DeepHandedRow
import Derived.Lib.LaidTab
namespace Go.Proofs.YthipclehhcfahaaGreatDoor
open Go.RowKit

/-- Two faults held against one another. -/
theorem eqF (d : Nat) (a c a' c' : Int) (w : World) : (Op.equalIn (d + 2) 47 (.agg #[.int .i64 a, .int .i64 c]) (.agg #[.int .i64 a', .int .i64 c'])).run Tryz.prog w = .ok (a == a' && c == c') w := by
  have hi := fun (a b : Int) (w : World) => run_equalIn_int (P := Tryz.prog) w d 3 .i64 .i64 a b Tryz.underlying3
  have he := fun (a b : Int) (w : World) => run_equalIn_int (P := Tryz.prog) w d 23 .i64 .i64 a b Tryz.underlying23
  unfold Op.equalIn
  simp only [Sem.run_bind, run_underlying Tryz.underlying47, Result.andThen_ok]
  simp [part, Tryz.sizeOf3, Tryz.sizeOf23, go_sem, hi, he]
  by_cases h0 : a = a' <;> by_cases h1 : c = c' <;> simp [h0, h1]
end Go.Proofs.YthipclehhcfahaaGreatDoor
namespace Go.Proofs.YthipclehhcfahaaGreatDoor
open Go.RowKit Go.Shelf

/-- Read, with what it gives lying somewhere. -/
theorem eread_at (s : ByteArray) (hs : s.size ≤ 9223372036854775807) (W : World) (hW : TbE W) : Calls Tryz.prog 22 #[.string s] W fun e w' => ∃ ad cp, e = .returned (.tuple #[.slice ad (rdO s).x.length cp, .agg #[.int .i64 (rdO s).at_, .int .i64 (rdO s).c]]) ∧ PtsAt w' ad (rdO s).x ∧ Below W.heap.size W w' :=
  (eread_any s W hW hs).mono fun e w' ⟨⟨v, h1, h2⟩, h3⟩ => by
    obtain ⟨ad, cp, rfl, h4, _⟩ := h2.at
    exact ⟨ad, cp, h1, h4, h3⟩
theorem wrS_size (x : List Pt) (hok : ∀ p ∈ x, p.ok) : (wrS x).size ≤ 60000 := by
  unfold wrS
  split
  · show 0 ≤ _; omega
  · rename_i h
    obtain ⟨t, h1, h2, h3, h4, h5, h6⟩ := ckK_leaves h
    have hfd : fdX wrv x = some (t.val wrv) := by rw [h3]; exact fdX_flat wrv t h1
    rw [hfd]
    have := t.wr_len h1 (t.fine_leaves h2) (fun q hq => (hok q (by rw [h3]; exact hq)).2.1.2)
    rw [← h3] at this
    show (txt (t.val wrv).1).size ≤ _
    rw [txt_size]
    omega
theorem flt_eq (a c : Int) : (a == 0 && c == 0) = true → c = 0 := by intro h; simp at h; exact h.2
set_option maxHeartbeats 2000000 in
set_option maxRecDepth 100000 in
theorem eback_walk (ad : Option Addr) (cap : Nat) (x : List Pt) (s : ByteArray) (w : World) (hl : x.length ≤ 9223372036854775807) (hA : PtsAt w ad x) (hok : ∀ p ∈ x, p.ok) (hs : s.size ≤ 9223372036854775807) (hT : TbE w) :
    Calls Tryz.prog 5 #[.slice ad x.length cap, .string s] w fun e w' => e = .returned (.bool true) ∧ Kp [] w w' := by
  have hlow := hT.low
  have HA := hide hA
  have HOK := hide hok
  have HT := hide hT
  have WK := hide (eworks_any w hT)
  have RS := hide (fun W hW => eread_at s hs W hW)
  clear hA hok hT
  go_enter Tryz.func5, Tryz.ntmps5
  go_wp2_with fail
  refine (unhide WK).mono ?_
  rintro e w1 ⟨rfl, hb1⟩
  have HT1 := hide ((unhide HT).below hb1 hlow)
  have HA1 := hide ((unhide HA).kp (Kp.ofBelow hb1))
  have WR := hide (write_any ad cap x w1 (unhide HA1) (unhide HT1) (unhide HOK))
  have HB1 := hide hb1
  clear hb1 WK
  go_wp2_with fail
  refine (unhide WR).mono ?_
  rintro e w2 ⟨rfl, hb2⟩
  have HT2 := hide ((unhide HT1).below hb2 (unhide HT1).low)
  have HA2 := hide ((unhide HA1).kp (Kp.ofBelow hb2))
  have HB2 := hide ((unhide HB1).trans (hb2.mono (unhide HB1).size))
  clear hb2 WR HB1 HT1 HA1
  go_upto_if 23 with fail
  go_cut [5, 6] (fun _ _ wc => Hid (Below w.heap.size w wc))
  case first =>
    by_cases h0 : ckK x = 0
    · have hw : wrS x = ⟨#[]⟩ := by unfold wrS; rw [if_pos h0]
      rw [if_pos h0, hw]
      clear h0 hw
      go_wp2
      go_meet
      exact HB2
    · rw [if_neg h0]
      have RW := hide (fun W hW => eread_at (wrS x) (by have := wrS_size x (unhide HOK); omega) W hW)
      rw [write_read h0 (unhide HOK)] at RW
      dsimp only at RW
      generalize wrS x = S at *
      have RW2 := hide (unhide RW w2 (unhide HT2))
      have SM := hide (fun a1 a2 c1 c2 W => same_any a1 a2 c1 c2 x x W hl)
      rw [ptsEq_self] at SM
      clear h0 RW
      go_wp2_with fail
      refine (unhide RW2).mono ?_
      rintro e w3 ⟨a3, c3, rfl, hA3, hb3⟩
      have k3 : Kp [] w3 (w3.alloc (.cells #[.int .i64 0, .int .i64 0] 47)) := Kp.alloc _ _
      have HB3 := hide (((unhide HB2).trans (hb3.mono (unhide HB2).size)).alloc (by have := (unhide HB2).size; have := hb3.size; omega) (.cells #[.int .i64 0, .int .i64 0] 47))
      have SM2 := hide (unhide SM ad a3 cap c3 _ (((unhide HA2).kp (Kp.ofBelow hb3)).kp k3) (hA3.kp k3))
      clear hb3 hA3 RW2 SM
      go_wp2_with (go_at_call 16; refine (unhide SM2).mono ?_; rintro e w4 ⟨rfl, hk4⟩; have HB4 : Hid (Below w.heap.size w w4) := hide ((unhide HB3).trans (hk4.below (unhide HB3).size (by simp))); clear hk4 SM2)
      go_meet
      exact HB4
  case rest =>
    have HTc := hide ((unhide HT).below (unhide hcut) hlow)
    have RS2 := hide (unhide RS wc (unhide HTc))
    have HOY := hide (read_ok s)
    have HLY := hide (read_len (s := s))
    have HMY := hide (fun (h : (rdO s).c = 0) => And.intro (read_may h) (read_at h))
    have HNY := hide (fun (h : (rdO s).c ≠ 0) => read_none h)
    clear HA2 HT2 HB2 HA HOK RS HTc
    generalize (rdO s).x = y at *
    generalize (rdO s).at_ = A at *
    generalize (rdO s).c = C at *
    have HCW := hide (unhide hcut)
    clear hcut
    by_cases hC : C = 0
    · subst hC
      obtain ⟨hm, rfl⟩ := unhide HMY rfl
      have HM := hide hm
      clear HMY HNY hm
      go_wp2_with fail
      refine (unhide RS2).mono ?_
      rintro e w3 ⟨a3, c3, rfl, hA3, hb3⟩
      have k3 : Kp [] w3 (w3.alloc (.cells #[.int .i64 0, .int .i64 0] 47)) := Kp.alloc _ _
      have HB3 := hide (((unhide HCW).trans (hb3.mono (unhide HCW).size)).alloc (by have := (unhide HCW).size; have := hb3.size; omega) (.cells #[.int .i64 0, .int .i64 0] 47))
      have HT3 := hide ((unhide HT).below (unhide HB3) hlow)
      have HA3 := hide (hA3.kp k3)
      have WR := hide (write_any a3 c3 y _ (unhide HA3) (unhide HT3) (unhide HOY))
      rw [if_neg (unhide HM)] at WR
      have RW := hide (fun W hW => eread_at (wrS y) (by have := wrS_size y (unhide HOY); omega) W hW)
      rw [write_read (unhide HM) (unhide HOY)] at RW
      dsimp only at RW
      generalize wrS y = S at *
      have hly : y.length ≤ 200 := unhide HLY
      clear hb3 hA3 k3 RS2 HM HLY HOY HCW
      go_wp2_with fail
      refine (unhide WR).mono ?_
      rintro e w4 ⟨rfl, hb4⟩
      have HB4 := hide ((unhide HB3).trans (hb4.mono (unhide HB3).size))
      have HA4 := hide ((unhide HA3).kp (Kp.ofBelow hb4))
      have RW2 := hide (unhide RW w4 ((unhide HT).below (unhide HB4) hlow))
      clear hb4 HB3 HA3 WR RW HT3
      go_wp2_with fail
      refine (unhide RW2).mono ?_
      rintro e w5 ⟨a5, c5, rfl, hA5, hb5⟩
      have k5 : Kp [] w5 (w5.alloc (.cells #[.int .i64 0, .int .i64 0] 47)) := Kp.alloc _ _
      have HB5 := hide (((unhide HB4).trans (hb5.mono (unhide HB4).size)).alloc (by have := (unhide HB4).size; have := hb5.size; omega) (.cells #[.int .i64 0, .int .i64 0] 47))
      have SM := hide (same_any a3 a5 c3 c5 y y _ (by omega) (((unhide HA4).kp (Kp.ofBelow hb5)).kp k5) (hA5.kp k5))
      rw [ptsEq_self] at SM
      clear hb5 hA5 k5 HB4 HA4 RW2
      go_wp2_with (go_at_call 16; refine (unhide SM).mono ?_; rintro e w6 ⟨rfl, hk6⟩; have HB6 : Hid (Kp [] w w6) := hide ((Kp.ofBelow (unhide HB5)).trans hk6 (by simp)); clear hk6 SM)
      go_ret
      exact ⟨rfl, unhide HB6⟩
    · obtain rfl := unhide HNY hC
      have g : (C == 0) = false := beq_eq_false_iff_ne.2 hC
      have EQ : ∀ W, (Op.equalIn 10000 47 (.agg #[.int .i64 A, .int .i64 C]) (.agg #[.int .i64 0, .int .i64 0])).run Tryz.prog W = .ok false W := fun W => by rw [eqF 9998, g, Bool.and_false]
      clear HMY HNY hC g
      go_wp2_with fail
      refine (unhide RS2).mono ?_
      rintro e w3 ⟨a3, c3, rfl, hA3, hb3⟩
      have HB3 := hide (((unhide HCW).trans (hb3.mono (unhide HCW).size)).alloc (by have := (unhide HCW).size; have := hb3.size; omega) (.cells #[.int .i64 A, .int .i64 C] 47))
      clear hb3 hA3 RS2 HCW
      go_wp2
      go_ret
      exact ⟨rfl, Kp.ofBelow (unhide HB3)⟩
end Go.Proofs.YthipclehhcfahaaGreatDoor
namespace Go.Proofs.YthipclehhcfahaaGreatDoor
open Go.RowKit Go.Shelf

/-- The law's rows as cells. -/
def sumC (a b : Int) : Array Value := #[.string (sumS.getD 0 noB), .bool true, .string (sumS.getD 1 noB), .bool true, .string (sumS.getD 2 noB), .bool true, .string (sumS.getD 3 noB), .bool true, .string (sumS.getD 4 noB), .bool true, .string (sumS.getD 5 noB), .bool true, .string (sumS.getD 6 noB), .bool false, .string (sumS.getD 7 noB), .bool (a == b), .string (sumS.getD 8 noB), .bool (a == b)]
theorem sumC_at (a b : Int) (k : Nat) (hk : k < 9) {s : ByteArray} {w : Bool} (hs : sumS[k]? = some s) (hw : (sumW a b)[k]? = some w) : (sumC a b)[k * 2]? = some (.string s) ∧ (sumC a b)[k * 2 + 1]? = some (.bool w) := by
  rcases (show k = 0 ∨ k = 1 ∨ k = 2 ∨ k = 3 ∨ k = 4 ∨ k = 5 ∨ k = 6 ∨ k = 7 ∨ k = 8 by omega) with rfl | rfl | rfl | rfl | rfl | rfl | rfl | rfl | rfl
  all_goals
    cases hs
    cases hw
    exact ⟨rfl, rfl⟩
theorem sumS_size : ∀ s ∈ sumS, s.size ≤ 9223372036854775807 := by
  intro s hs
  unfold sumS at hs
  simp only [List.mem_cons, List.not_mem_nil, or_false] at hs
  rcases hs with rfl | rfl | rfl | rfl | rfl | rfl | rfl | rfl | rfl <;> decide
theorem pair_cells {g : Nat} {a b : Value} {t : TypeId} {w : World} (h : CBox g #[a, b] t w) : w.cell? ⟨g, 0, none⟩ = some a ∧ w.cell? ⟨g, 1, none⟩ = some b := ⟨h.cell rfl, h.cell rfl⟩
set_option maxHeartbeats 4000000 in
set_option maxRecDepth 100000 in
theorem esums_walk (a b c : Int) (w : World) (h1 : -9223372036854775808 ≤ a) (h2 : a ≤ 9223372036854775807) (hT : TbE w) :
    Calls Tryz.prog 7 #[.int .i64 a, .int .i64 b, .int .i64 c] w fun e w' => e = .returned (.bool true) ∧ Kp [] w w' := by
  have HT := hide hT
  have WK := hide (eworks_any w hT)
  have HSU := hide (fun k hk => sum_ok a b c h1 h2 k hk)
  clear hT
  go_enter Tryz.func7, Tryz.ntmps7
  go_wp2_with fail
  refine (unhide WK).mono ?_
  rintro e w1 ⟨rfl, hb1⟩
  have HB1 := hide hb1
  clear hb1 WK
  go_wp2_with fail
  have e0 : wrap64 (a + b) = IntKind.i64.wrap (a + b) := (IntWalk.i64_left _).symm
  have hev : (sumV a b c).c = #[.string ⟨#[107]⟩, .string ⟨#[116]⟩, .int .i64 a, .int .i64 b, .int .i64 c, .int .i64 (wrap64 (a + b)), .string ⟨#[]⟩] := by rw [e0]; rfl
  have q1 : EBox w1.heap.size (sumV a b c) ((w1.alloc (.cells #[.string ⟨#[107]⟩, .string ⟨#[116]⟩, .int .i64 a, .int .i64 b, .int .i64 c, .int .i64 (wrap64 (a + b)), .string ⟨#[]⟩] 37)).alloc (.cells (sumC a b) 58)) := by
    rw [← hev]
    exact EBox.alloc (CBox.new w1 _ _) _
  have q2 : CBox (w1.heap.size + 1) (sumC a b) 58 ((w1.alloc (.cells #[.string ⟨#[107]⟩, .string ⟨#[116]⟩, .int .i64 a, .int .i64 b, .int .i64 c, .int .i64 (wrap64 (a + b)), .string ⟨#[]⟩] 37)).alloc (.cells (sumC a b) 58)) := by
    have := CBox.new (w1.alloc (.cells #[.string ⟨#[107]⟩, .string ⟨#[116]⟩, .int .i64 a, .int .i64 b, .int .i64 c, .int .i64 (wrap64 (a + b)), .string ⟨#[]⟩] 37)) (sumC a b) 58
    rwa [show (w1.alloc (.cells #[.string ⟨#[107]⟩, .string ⟨#[116]⟩, .int .i64 a, .int .i64 b, .int .i64 c, .int .i64 (wrap64 (a + b)), .string ⟨#[]⟩] 37)).heap.size = w1.heap.size + 1 by simp] at this
  have HB2 := hide ((((unhide HB1).alloc (unhide HB1).size (.cells #[.string ⟨#[107]⟩, .string ⟨#[116]⟩, .int .i64 a, .int .i64 b, .int .i64 c, .int .i64 (wrap64 (a + b)), .string ⟨#[]⟩] 37)).alloc (by have := (unhide HB1).size; simp; omega) (.cells (sumC a b) 58)))
  unfold sumC at q1 q2 HB2
  have HQ1 := hide q1
  have HQ2 := hide q2
  clear q1 q2 hev e0 HB1
  unfold sumS noB at HQ1 HQ2 HB2
  simp only [List.getD_cons_zero, List.getD_cons_succ] at HQ1 HQ2 HB2
  generalize ((w1.alloc (.cells #[.string ⟨#[107]⟩, .string ⟨#[116]⟩, .int .i64 a, .int .i64 b, .int .i64 c, .int .i64 (wrap64 (a + b)), .string ⟨#[]⟩] 37)).alloc _) = W0 at *
  go_loopw [41] (fun i wr => ∃ k : Nat, k ≤ 9 ∧ i = .int .i64 (k : Int) ∧ Below W0.heap.size W0 wr) (fun i _ => 9 - (intOf i).toNat)
  case atStart => exact ⟨0, by omega, rfl, Below.refl _ _⟩
  case round =>
    obtain ⟨k, hk, rfl, hb⟩ := hrel
    by_cases hlt : k < 9
    · obtain ⟨s, want, hs, hw, hc0, hE, hBt⟩ := unhide HSU k hlt
      have hq : CBox (w1.heap.size + 1) (sumC a b) 58 W0 := unhide HQ2
      have hq2 := hq.kp (Kp.ofBelow hb) (by simp)
      obtain ⟨s1, s2⟩ := sumC_at a b k hlt hs hw
      have c0 := hq2.cell s1
      have c1 := hq2.cell s2
      have hssz := sumS_size s (List.mem_of_getElem? hs)
      have RS := hide (fun W hW => eread_at s hssz W hW)
      have hat := read_at hc0
      rw [hc0, hat] at RS
      have HOY := hide (read_ok s)
      generalize (rdO s).x = y at *
      have hli : (k : Int) < 9 := by omega
      have hb2 : Below W0.heap.size W0 (wr.alloc (.cells #[.string s, .bool want] 58)) := hb.alloc hb.size _
      have hbw : Below w.heap.size w (wr.alloc (.cells #[.string s, .bool want] 58)) := (unhide HB2).trans (hb2.mono (unhide HB2).size)
      have RS2 := hide (unhide RS _ ((unhide HT).below hbw (unhide HT).low))
      have HB3 := hide hb2
      have HBW := hide hbw
      have HZ : Hid (hdE y (sumM a b c) = 0 ∧ hdB y (sumM a b c) = want) := hide ⟨hE, hBt⟩
      have zb : CBox wr.heap.size #[.string s, .bool want] 58 (wr.alloc (.cells #[.string s, .bool want] 58)) := CBox.new wr _ _
      clear hs hw hc0 hE hBt hq hq2 s1 s2 hat RS hb hb2 hbw
      go_wp2_with fail
      refine (unhide RS2).mono ?_
      rintro e w3 ⟨a3, c3, rfl, hA3, hb3⟩
      have hl3 := hb3.size
      have hb4 : Below (wr.alloc (.cells #[.string s, .bool want] 58)).heap.size (wr.alloc (.cells #[.string s, .bool want] 58)) (w3.alloc (.cells #[.int .i64 0, .int .i64 0] 47)) := hb3.alloc hl3 _
      have HB5 := hide ((unhide HB3).trans (hb4.mono (unhide HB3).size))
      have HBW5 := hide ((unhide HBW).trans (hb4.mono (unhide HBW).size))
      have eb := (unhide HQ1).below (unhide HB5) (unhide HQ1).lt
      have zb4 := zb.kp (Kp.ofBelow hb4) (by simp)
      obtain ⟨z0, z1⟩ := pair_cells zb4
      obtain ⟨v0, v1, v2, v3, v4, v5, v6⟩ := eb.cells
      have HD := hide (holds_any a3 none none c3 0 0 y (sumV a b c) [] [] (w3.alloc (.cells #[.int .i64 0, .int .i64 0] 47)) (hA3.kp (Kp.alloc _ _)) (fun h => absurd rfl h) (by simp) (fun h => absurd rfl h) ((unhide HT).below (unhide HBW5) (unhide HT).low) (fun p hp => (unhide HOY p hp).2.2.2.1))
      have hM : (⟨sumV a b c, [], []⟩ : Mo) = sumM a b c := rfl
      rw [hM, (unhide HZ).1, (unhide HZ).2] at HD
      have hcc : (sumV a b c).c = #[.string (sumV a b c).k, .string (sumV a b c).t, .int .i64 (sumV a b c).n0, .int .i64 (sumV a b c).n1, .int .i64 (sumV a b c).n2, .int .i64 (sumV a b c).n3, .string (sumV a b c).x] := rfl
      rw [hcc] at HD
      clear hM hcc hb3 hb4 HB3 HBW zb zb4 RS2 HZ hA3
      go_wp2_with fail
      refine (unhide HD).mono ?_
      rintro e w6 ⟨rfl, hb6⟩
      have z1' := (Kp.ofBelow hb6).cell z1 (by simp)
      have HB6 := hide ((unhide HB5).trans (hb6.mono (unhide HB5).size))
      clear hb6 HB5 HD v0 v1 v2 v3 v4 v5 v6 z0 z1
      go_wp2
      go_roundw
      case rel => exact ⟨k + 1, by omega, by go_num, unhide HB6⟩
      case measure => simp [intOf]; omega
    · have HK : Hid (Kp [] w wr) := hide (Kp.ofBelow ((unhide HB2).trans (hb.mono (unhide HB2).size)))
      clear hb
      go_wp2
      go_ret
      exact ⟨rfl, unhide HK⟩
end Go.Proofs.YthipclehhcfahaaGreatDoor
namespace Go.Proofs.YthipclehhcfahaaGreatDoor.exprSums
open Go.ChangeShapes Go.WideShapes Go.ChangeAt Go.RowKit
open Go.ChangeMaps (open_string shut_string)

theorem own : ownKnob Tryz.prog.godebug = none := by kernel_rfl
theorem laidOut : laidOutB Tryz.prog = true := by kernel_rfl
set_option maxRecDepth 100000 in
/-- What the walk gives, for every argument and every world that holds the table. -/
theorem contract (H : Type) (enc : TypeId × Value → H) (W : World) (base : Nat) (args : Array Value) (ds gs : List (DataW H)) (before : List MemPlace)
    (hval : ∀ (j : Nat) t v, Tryz.f7.params[j]? = some t → args[j]? = some v → Value.okWide Tryz.prog W .any base t v)
    (hW : DataW.Whole enc Tryz.prog Tryz.f7.params.toList Rows.exprSumsSpec.vars false W args.toList ds gs before) (hL : laidMetH Tryz.prog Rows.exprSumsRow.laid W) :
    Calls Tryz.prog 7 args W fun e W' => ∃ v, e = .returned v ∧ Rows.exprSumsSpec.post enc Tryz.prog Tryz.f7 false true false false W args v W' := by
  have hW' := hW
  obtain ⟨p, q, hA0, hV, rfl, hfz, hnd⟩ := hW
  have hA : DataW.TrodAll enc Tryz.prog W 0 (fun _ => true) true Tryz.f7.params.toList args.toList ds p := hA0
  rw [Tryz.params7] at hA hval
  obtain ⟨v0, vs0, d0, ds0, p0, q0, hargs, rfl, rfl, h0, r0⟩ := trodAll_cons hA
  obtain ⟨v1, vs1, d1, ds1, p1, q1, rfl, rfl, rfl, h1, r1⟩ := trodAll_cons r0
  obtain ⟨v2, vs2, d2, ds2, p2, q2, rfl, rfl, rfl, h2, r2⟩ := trodAll_cons r1
  obtain ⟨rfl, rfl, rfl⟩ := trodAll_nil r2
  obtain rfl : args = #[v0, v1, v2] := by cases args; simp_all
  obtain ⟨rfl, rfl⟩ := trodVars_none hV
  obtain ⟨x0, rfl, rfl, rfl, wx0⟩ := open_int Tryz.underlying2 (hval 0 2 v0 rfl rfl) h0
  obtain ⟨x1, rfl, rfl, rfl, wx1⟩ := open_int Tryz.underlying2 (hval 1 2 v1 rfl rfl) h1
  obtain ⟨x2, rfl, rfl, rfl, wx2⟩ := open_int Tryz.underlying2 (hval 2 2 v2 rfl rfl) h2
  clear hA0
  simp only [List.append_nil] at hW'
  refine (esums_walk x0 x1 x2 W (by have := bounds_i64 wx0; omega) (by have := bounds_i64 wx0; omega) (tbE hL)).mono fun e W' ⟨he, hg0⟩ => ?_
  subst he
  have hg := hg0.below (Nat.le_refl W.heap.size) (by simp)
  exact ⟨_, rfl, _, _, _, [], [], [], hW', trodAll_cons_mk (shut_bool Tryz.underlying4 _) trodAll_mk0, trodAll_cons_mk (shut_int Tryz.underlying2 wx0) (trodAll_cons_mk (shut_int Tryz.underlying2 wx1) (trodAll_cons_mk (shut_int Tryz.underlying2 wx2) trodAll_mk0)), rfl, hg.frame _, fun h => by cases h⟩

theorem laid_met (os : Os) : laidMet Tryz.prog Rows.exprSumsRow.laid ({ World.holding Tryz.prog os ⟨errBlks, #[], []⟩ with heap := putL (World.holding Tryz.prog os ⟨errBlks, #[], []⟩).heap }.forCall (fun _ _ => 0) ⟨#[], #[.int .i64 0, .int .i64 0, .int .i64 0], []⟩).memory :=
  laidMet_of_run' 8 (by kernel_rfl) (by kernel_rfl)
theorem reads (os : Os) {H : Type} (enc : TypeId × Value → H) : ∃ places, DataW.whole enc Tryz.prog ({ World.holding Tryz.prog os ⟨errBlks, #[], []⟩ with heap := putL (World.holding Tryz.prog os ⟨errBlks, #[], []⟩).heap }.forCall (fun _ _ => 0) ⟨#[], #[.int .i64 0, .int .i64 0, .int .i64 0], []⟩).memory Tryz.f7.params.toList Rows.exprSumsSpec.vars false #[Value.int .i64 0, Value.int .i64 0, Value.int .i64 0].toList 8 = some ([.lit (.int .i64 0), .lit (.int .i64 0), .lit (.int .i64 0)], [], places) :=
  ⟨[], by kernel_rfl⟩
set_option maxRecDepth 100000 in
theorem lifted (os : Os) (started : os.Started) (H : Type) (enc : TypeId × Value → H) (F : Stop.Interp) :
    ReturnsInHanded {} Tryz.checked os 7 .any ((OpenSpec.ofChange Rows.exprSumsSpec).preRow enc Tryz.prog Tryz.f7 Rows.exprSumsRow.domain false Rows.exprSumsRow.laid) (((OpenSpec.ofChange Rows.exprSumsSpec).at F).post enc Tryz.prog Tryz.f7 false true false false) := by
  obtain ⟨places, hx⟩ := reads os enc
  refine returnsInHanded_of_row (C := Tryz.checked) (s := OpenSpec.ofChange Rows.exprSumsSpec) own started (by kernel_rfl) Tryz.func7
    (witness_row_at (enc := enc) (C := Tryz.checked) false { World.holding Tryz.prog os ⟨errBlks, #[], []⟩ with heap := putL (World.holding Tryz.prog os ⟨errBlks, #[], []⟩).heap } #[.int .i64 0, .int .i64 0, .int .i64 0] rfl (by kernel_rfl) (by kernel_rfl) (by kernel_rfl)
      (OpenSpec.preRow_of_cond 8 hx (by kernel_rfl) (fun k hk => by cases hk) (by kernel_rfl) (laid_met os))) ?_
  intro W base args ds gs before hval hW _ _ _ hL _ _
  exact contract H enc W base args ds gs before hval hW hL
theorem said : Rows.ExprSumsSaid :=
  OpenClaim.holds_of_cond 7 Tryz.f7 rfl rfl rfl rfl rfl rfl rfl ⟨rfl, rfl, rfl, rfl, rfl⟩ rfl rfl rfl rfl rfl (by kernel_rfl) Tryz.func7 (by kernel_rfl)
    (of_decide_eq_true (by kernel_rfl)) (by unfold Func.isWrapper; first | (rw [if_pos (by decide +kernel)]; kernel_rfl) | (rw [if_neg (by decide +kernel)]; exact ⟨rfl, rfl⟩))
    (fun os started H enc _ F => by rw [OpenClaim.pre_eq_preRow]; exact lifted os started H enc F)
/-- No parameter wants a stand-in; the program's own looks are off. -/
theorem plain (f : FuncId) (fn : Func) (hf : Tryz.pinned.checked.prog.funcNamed "weaver/weaverlaw11.ExprSums" = some f) (hfn : Tryz.pinned.checked.prog.funcs[f]? = some fn) :
    true = Tryz.pinned.checked.prog.looks [] ∧ ∀ (j : Nat) t, fn.params[j]? = some t → Tryz.pinned.checked.prog.wantsStandIn t = false := by
  obtain rfl : f = 7 := Option.some.inj ((show Tryz.prog.funcNamed "weaver/weaverlaw11.ExprSums" = some 7 by kernel_rfl).symm.trans hf) |>.symm
  obtain rfl : fn = Tryz.f7 := (Option.some.inj (Tryz.func7.symm.trans hfn)).symm
  refine ⟨by kernel_rfl, fun j t ht => ?_⟩
  rw [Tryz.params7] at ht
  have hm := Array.mem_of_getElem? ht
  simp at hm
  subst hm
  exact (show Tryz.prog.wantsStandIn 2 = false by kernel_rfl)
end Go.Proofs.YthipclehhcfahaaGreatDoor.exprSums
namespace Go.Proofs.YthipclehhcfahaaGreatDoor
/-- The card. -/
theorem exprSums_card : Rows.ExprSumsCardSaid :=
  Claim7.holds_tied_plain_at .later [] _ _ _ _ exprSums.said (fun _ h => by cases h) (by kernel_rfl) (fun _ h => by cases h) exprSums_row_tie rfl ⟨rfl, rfl⟩ (by kernel_rfl) rfl exprSums.plain (by kernel_rfl)
end Go.Proofs.YthipclehhcfahaaGreatDoor
