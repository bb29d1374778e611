/-
  BufferPlays: its walk.
  BufferPlays is proved: for all rows of acts the law BufferPlays returns true (a buffer under any calls answers, call by call, as the document has it), and its argument reads behind the call as before. No condition.
-/
import Derived.Test.YthdfaidjdddagaaL14
import Derived.Deep.CutBlock
import Derived.Test.YthdfaidjdddagaaRows
import Derived.ProofKit
import Derived.OpenShut
import Derived.Deep.DeepHandedRow
import Derived.Lib.LaidTab
namespace Go.Proofs.Ythdfaidjdddagaa
open Go.RowKit

set_option maxHeartbeats 4000000 in
set_option maxRecDepth 100000 in
theorem bplays_walk (ad : Option Addr) (cp : Nat) (l : List Act16) (w : World) (_hl : l.length ≤ 9223372036854775807) (hA : Acs16 w ad l) (_hok : ∀ y ∈ l, y.ok) :
    Calls Try.prog 3 #[.slice ad l.length cp] w fun e w' => e = .returned (.bool true) ∧ Below w.heap.size w w' := by
  have NW := hide (buNew_any w)
  have HA := hide hA
  clear hA
  go_enter Try.func3, Try.ntmps3
  go_wp2_with fail
  refine (unhide NW).mono ?_
  rintro r w1 ⟨rfl, hb1, hk1⟩
  have HS : Hid (PlS w (w1.alloc (.cells #[.slice none 0 0] 28)) w1.heap.size (.slice none 0 0) 0 (fun _ => zeE) (fun _ => zeE) 0 0) := hide ⟨hb1.kp (Kp.alloc _ _) (by simp), Rb.new w1 _, BIv.empty, hb1.lt, hk1.trans (Kp.alloc _ _) (by simp)⟩
  clear NW hb1 hk1
  go_wp2_with fail
  generalize w1.heap.size = br at *
  go_loopw [5] (fun vi wr => ∃ (t m n : Nat) (v : Value) (es c : Nat → Ent), t ≤ 300 ∧ t ≤ l.length ∧ vi = .int .i64 (t : Int) ∧ Hid (PlS w wr br v n es c m t)) (fun vi _ => 300 - (intOf vi).toNat)
  case atStart => exact ⟨0, 0, 0, _, _, _, by decide, Nat.zero_le _, rfl, HS⟩
  case round =>
    clear HS
    obtain ⟨t, m, n, v, es, c, ht, htl, rfl, HS⟩ := hrel
    by_cases hcc : t < l.length ∧ t < 300
    · obtain ⟨h1, h2⟩ := hcc
      have i1 : (t : Int) < (l.length : Int) := by omega
      have i2 : (t : Int) < 300 := by omega
      obtain ⟨ba, oa, rfl, _, c0, c1, c2, c3⟩ := ((unhide HA).kp (unhide HS).kp).at t h1
      generalize l[t].kind = kd at *
      generalize l[t].stage = sg at *
      generalize l[t].place = pc at *
      generalize l[t].id = ii at *
      have x1 := CBox.new wr #[.int .i64 kd, .int .i64 sg, .int .i64 pc, .int .i64 ii] 30
      have HX := hide x1
      have HS3 := hide ((unhide HS).kp0 (Kp.alloc wr (.cells #[.int .i64 kd, .int .i64 sg, .int .i64 pc, .int .i64 ii] 30)))
      have y0 := x1.cell (i := 0) (v := .int .i64 kd) rfl
      have hxb : w.heap.size < wr.heap.size := (unhide HS).bu.lt
      clear x1
      have AM := hide (buAmong_any kd 4 (wr.alloc (.cells #[.int .i64 kd, .int .i64 sg, .int .i64 pc, .int .i64 ii] 30)) (by decide) (by decide))
      have hx := Int.emod_nonneg kd (b := 4) (by decide)
      have hx2 := Int.emod_lt_of_pos kd (b := 4) (by decide)
      go_upto_block 2 with (go_at_call 9; refine (unhide AM).mono ?_; rintro r w4 ⟨rfl, hw4⟩; obtain rfl := hw4.symm)
      clear AM c0 c1 c2 c3
      generalize wr.alloc (.cells #[.int .i64 kd, .int .i64 sg, .int .i64 pc, .int .i64 ii] 30) = w3 at *
      generalize wr.heap.size = bx at *
      go_cut [] (fun wc => ∃ (m' n' : Nat) (v' : Value) (es' c' : Nat → Ent), Hid (PlS w wc br v' n' es' c' m' (t + 1)))
      case first =>
        generalize kd % 4 = K at *
        rcases (show K = 0 ∨ K = 1 ∨ K = 2 ∨ K = 3 by omega) with rfl | rfl | rfl | rfl
        · -- put
          have y1 := (unhide HX).cell (i := 1) (v := .int .i64 sg) rfl
          have y2 := (unhide HX).cell (i := 2) (v := .int .i64 pc) rfl
          have y3 := (unhide HX).cell (i := 3) (v := .int .i64 ii) rfl
          have PT := hide (put_any w.heap.size sg pc ii c m (t : Int) w3 (unhide HS3).bu (unhide HS3).iv (by omega))
          go_wp2_with fail
          refine (unhide PT).mono ?_
          rintro r w5 ⟨id, er, d, m5, rfl, hR, hb5, hk5⟩
          obtain ⟨rb5, kp5⟩ := (unhide HS3).half hk5
          have x5 := (unhide HX).kp hk5 (by simp; omega)
          have PT2 := hide (rput_any br n m (t : Int) v es c sg pc ii w5 rb5 (unhide HS3).iv (by omega))
          have HB5 := hide hb5
          have HK5 := hide hk5
          clear PT y1 y2 y3 y0 rb5 kp5 hb5 hk5
          have y1 := x5.cell (i := 1) (v := .int .i64 sg) rfl
          have y2 := x5.cell (i := 2) (v := .int .i64 pc) rfl
          have y3 := x5.cell (i := 3) (v := .int .i64 ii) rfl
          clear x5
          go_wp2_with fail
          refine (unhide PT2).mono ?_
          rintro r w6 ⟨id2, er2, d2, m2, v2, n2, es2, rfl, hR2, hr6, hk6⟩
          obtain ⟨rfl, rfl, hpl⟩ := (unhide HS3).put (unhide hR) hR2 (unhide HK5) (unhide HB5) hr6 hk6
          have HPL := hide hpl
          clear PT2 hR hR2 hr6 hk6 hpl HB5 HK5 y1 y2 y3
          go_wp2_with fail
          go_meet
          exact ⟨_, _, _, _, _, HPL⟩
        · -- held
          have y3 := (unhide HX).cell (i := 3) (v := .int .i64 ii) rfl
          have hS := (unhide HS3).iv.sml (by omega)
          go_upto_region 25 with fail
          go_cut [147] (fun u wc => u = .bool false ∧ ∃ (m' n' : Nat) (v' : Value) (es' c' : Nat → Ent), Hid (PlS w wc br v' n' es' c' m' (t + 1)))
          case first =>
            cases hh : hasE c ii with
            | false =>
              have A1 : Hid (∀ W, Kp [] w3 W → Calls Try.prog 12 #[.pointer (some ⟨w.heap.size, 0, none⟩), .int .i64 ii] W fun e w' => e = .returned (.int .i64 160) ∧ Kp [] W w') := hide (fun W hW => buHold_not w.heap.size ii c m W ((unhide HS3).bu.kp hW (by simp)) hS hh)
              have A2 : Hid (∀ W, Kp [] w3 W → Calls Try.prog 13 #[.pointer (some ⟨br, 0, none⟩), .int .i64 ii] W fun e w' => e = .returned (.int .i64 160) ∧ Kp [] W w') := hide (fun W hW => rhold_not br n v es c ii W ((unhide HS3).rb.kp hW) hS hh)
              clear hh
              go_region_with (first
                | (go_at_call 12; refine (unhide A1 _ (Kp.drew _)).mono ?_; rintro e w5 ⟨rfl, hk5⟩; have k5 : Kp [] w3 w5 := ((Kp.drew _).trans hk5 (by simp)); have z5 := k5.cell y3 (by simp); have K5 := hide k5; clear hk5 k5)
                | (go_at_call 13; refine (unhide A2 _ (unhide K5)).mono ?_; rintro e w6 ⟨rfl, hk6⟩; have K6 : Hid (Kp [] w3 w6) := hide ((unhide K5).trans hk6 (by simp)); clear hk6))
              all_goals
                go_wp2_with fail
                go_meet
                exact ⟨rfl, m, n, v, es, c, hide (((unhide HS3).kp0 (unhide K6)).up (by omega))⟩
            | true =>
              obtain ⟨i, hi, hi4, hil⟩ := hasE_some hh
              subst hi
              have A1 : Hid (∀ W, Kp [] w3 W → Calls Try.prog 12 #[.pointer (some ⟨w.heap.size, 0, none⟩), .int .i64 (i : Int)] W fun e w' => e = .returned (.int .i64 0) ∧ Bu w.heap.size (hoE c i) (m : Int) w' ∧ Kp [w.heap.size] W w') := hide (fun W hW => buHold_ok w.heap.size i hi4 c m W ((unhide HS3).bu.kp hW (by simp)) hS hil)
              have A2 : Hid (∀ W, Rb br v n es c (-1) W → Calls Try.prog 13 #[.pointer (some ⟨br, 0, none⟩), .int .i64 (i : Int)] W fun e w' => ∃ es', e = .returned (.int .i64 0) ∧ Rb br v n es' (hoE c i) (-1) w' ∧ KpB br W w') := hide (fun W hW => rhold_ok br n i hi4 v es c W hW hS hil)
              have HIV := hide ((unhide HS3).iv.hold hi4 hil)
              clear hh hil
              go_region_with (first
                | (go_at_call 12; refine (unhide A1 _ (Kp.drew _)).mono ?_; rintro e w5 ⟨rfl, hb5, hk5⟩; have k5 : Kp [w.heap.size] w3 w5 := (((Kp.drew _).mono (by simp)).trans hk5 (by simp)); have z5 := k5.cell y3 (by simp; omega); have K5 := hide k5; have B5 := hide hb5; clear hk5 k5 hb5)
                | (go_at_call 13; refine (unhide A2 _ ((unhide HS3).half (unhide K5)).1).mono ?_; rintro e w6 ⟨es6, rfl, hr6, hk6⟩; have P6 := hide ((unhide HS3).both (unhide K5) (unhide B5) hr6 hk6 (unhide HIV)); clear hk6 hr6))
              all_goals
                go_wp2_with fail
                go_meet
                exact ⟨rfl, _, _, _, _, _, P6⟩
          case rest =>
            obtain ⟨rfl, m', n', v', es', c', HPL⟩ := hcut
            clear y3
            go_wp2_with fail
            go_meet
            exact ⟨_, _, _, _, _, HPL⟩
        · -- dropped
          have y3 := (unhide HX).cell (i := 3) (v := .int .i64 ii) rfl
          have hS := (unhide HS3).iv.sml (by omega)
          cases hh : hasE c ii with
          | false =>
            have D1 := hide (buDrop_not w.heap.size ii c m w3 (unhide HS3).bu hS hh)
            have HH := hide hh
            clear hh
            go_wp2_with fail
            refine (unhide D1).mono ?_
            rintro r w5 ⟨rfl, hk5⟩
            have HS5 := hide ((unhide HS3).kp0 hk5)
            have z5 := hk5.cell y3 (by simp)
            have D2 := hide (rdrop_not br n v es c ii w5 (unhide HS5).rb hS (unhide HH))
            clear D1 hk5 y3 y0
            go_wp2_with fail
            refine (unhide D2).mono ?_
            rintro r w6 ⟨rfl, hk6⟩
            have HS6 := hide (((unhide HS5).kp0 hk6).up (Nat.le_succ t))
            clear D2 hk6 z5
            go_wp2_with fail
            go_meet
            exact ⟨_, _, _, _, _, HS6⟩
          | true =>
            obtain ⟨i, hi, hi4, hil⟩ := hasE_some hh
            subst hi
            clear hh
            by_cases hz : (c i).h = 0
            · have D1 := hide (buDrop_held w.heap.size i hi4 c m w3 (unhide HS3).bu hS hil hz)
              have HH := hide (And.intro hil hz)
              clear hil hz
              go_wp2_with fail
              refine (unhide D1).mono ?_
              rintro r w5 ⟨rfl, hk5⟩
              have HS5 := hide ((unhide HS3).kp0 hk5)
              have z5 := hk5.cell y3 (by simp)
              have D2 := hide (rdrop_held br n i hi4 v es c w5 (unhide HS5).rb hS (unhide HH).1 (unhide HH).2)
              clear D1 hk5 y3 y0
              go_wp2_with fail
              refine (unhide D2).mono ?_
              rintro r w6 ⟨rfl, hk6⟩
              have HS6 := hide (((unhide HS5).kp0 hk6).up (Nat.le_succ t))
              clear D2 hk6 z5
              go_wp2_with fail
              go_meet
              exact ⟨_, _, _, _, _, HS6⟩
            · have hz1 : 0 < (c i).h := by have := (hS i hi4).1; omega
              have D1 := hide (buDrop_ok w.heap.size i hi4 c m (t : Int) w3 (unhide HS3).bu (unhide HS3).iv (by omega) (by omega) hz1)
              have HZ := hide hz1
              clear hil hz hz1
              go_wp2_with fail
              refine (unhide D1).mono ?_
              rintro r w5 ⟨k1, d, rfl, _, hsw, hb5, hi5, hk5⟩
              have z5 := hk5.cell y3 (by simp; omega)
              have D2 := hide (rdrop_ok br n i m (t : Int) hi4 v es c w5 ((unhide HS3).half hk5).1 (unhide HS3).iv (by omega) (by omega) (unhide HZ))
              have HB5 := hide hb5
              have HK5 := hide hk5
              clear D1 hk5 y3 y0 hb5
              go_wp2_with fail
              refine (unhide D2).mono ?_
              rintro r w6 ⟨k2, d2, es6, rfl, hsw2, hr6, hk6⟩
              obtain ⟨rfl, hpl⟩ := (unhide HS3).drop (unhide hsw) (unhide hsw2) (unhide hi5) (unhide HK5) (unhide HB5) hr6 hk6
              have HPL := hide hpl
              clear D2 hk6 z5 hpl hr6 hsw hsw2 HB5 HK5 hi5
              go_wp2_with fail
              go_meet
              exact ⟨_, _, _, _, _, HPL⟩
        · -- ways and counts
          have y3 := (unhide HX).cell (i := 3) (v := .int .i64 ii) rfl
          have hS := (unhide HS3).iv.sml (by omega)
          cases hh : hasE c ii with
          | false =>
            have W1 := hide (buWay_not w.heap.size ii c m w3 (unhide HS3).bu hS hh)
            have HH := hide hh
            clear hh
            go_wp2_with fail
            refine (unhide W1).mono ?_
            rintro r w5 ⟨rfl, hk5⟩
            have HS5 := hide ((unhide HS3).kp0 hk5)
            have z5 := hk5.cell y3 (by simp)
            have W2 := hide (rway_not br n v es c ii w5 (unhide HS5).rb hS (unhide HH))
            clear W1 hk5 y3 y0
            go_wp2_with fail
            refine (unhide W2).mono ?_
            rintro r w6 ⟨rfl, hk6⟩
            have HS6 := hide ((unhide HS5).kp0 hk6)
            have z6 := hk6.cell z5 (by simp)
            have W3 := hide (buCount_not w.heap.size ii c m w6 (unhide HS6).bu hS (unhide HH))
            clear W2 hk6 z5 HS5
            go_wp2_with fail
            refine (unhide W3).mono ?_
            rintro r w7 ⟨rfl, hk7⟩
            have HS7 := hide ((unhide HS6).kp0 hk7)
            have z7 := hk7.cell z6 (by simp)
            have W4 := hide (rcount_not br n v es c ii w7 (unhide HS7).rb hS (unhide HH))
            clear W3 hk7 z6 HS6
            go_wp2_with fail
            refine (unhide W4).mono ?_
            rintro r w8 ⟨rfl, hk8⟩
            have HS8 := hide ((unhide HS7).kp0 hk8)
            have WS := hide (ways_any (.slice none 0 0) (.slice none 0 0) [] [] w8 (OwP.nil 0 w8).read (OwP.nil 0 w8).read (by simp) true (by simp))
            clear W4 hk8 z7 HS7
            go_wp2_with fail
            refine (unhide WS).mono ?_
            rintro r w9 ⟨rfl, hk9⟩
            have HS9 := hide (((unhide HS8).kp0 hk9).up (Nat.le_succ t))
            clear WS hk9 HS8
            go_wp2_with fail
            go_loopw [23] (fun u wq => u = .int .i64 0 ∧ wq = w9) (fun _ _ => 0)
            case atStart => exact ⟨rfl, rfl⟩
            case round =>
              obtain ⟨rfl, hw⟩ := hrel
              obtain rfl := hw.symm
              go_wp2_with fail
              go_meet
              exact ⟨_, _, _, _, _, HS9⟩
          | true =>
            obtain ⟨i, hi, hi4, hil⟩ := hasE_some hh
            subst hi
            have W1 := hide (buWay_ok w.heap.size i hi4 c m (t : Int) w3 (unhide HS3).bu (unhide HS3).iv (by omega) hil)
            have HH := hide hil
            have hb3 : w.heap.size < w3.heap.size := (unhide HS3).bu.lt
            clear hh hil
            go_wp2_with fail
            refine (unhide W1).mono ?_
            rintro r w5 ⟨l5, v5, rfl, hw5, hl5, ho5, hk5⟩
            have HS5 := hide ((unhide HS3).kp0 hk5)
            have z5 := hk5.cell y3 (by simp)
            have HO5 := hide ho5
            have HK5 := hide hk5
            have W2 := hide (rway_ok br n i m (t : Int) hi4 v es c w5 (unhide HS5).rb (unhide HS5).iv (by omega) (unhide HH))
            clear W1 hk5 y3 y0 ho5
            go_wp2_with fail
            refine (unhide W2).mono ?_
            rintro r w6 ⟨l6, v6, rfl, hw6, _, ho6, hk6⟩
            obtain rfl := IsWay.one (unhide hw5) (unhide hw6)
            have HS6 := hide ((unhide HS5).kp0 hk6)
            have z6 := hk6.cell z5 (by simp)
            have HO5' : Hid (OwP w3.heap.size w6 v5 l5) := hide (own_kp (unhide HO5) hk6 (fun _ _ => by simp))
            have HO6 := hide ho6
            have HK6 : Hid (Kp [] w3 w6) := hide ((unhide HK5).trans hk6 (by simp))
            have W3 := hide (buCount_ok w.heap.size i hi4 c m w6 (unhide HS6).bu hS (unhide HH))
            clear W2 hk6 z5 HS5 ho6 hw6 HO5 HK5
            go_wp2_with fail
            refine (unhide W3).mono ?_
            rintro r w7 ⟨rfl, hk7⟩
            have HS7 := hide ((unhide HS6).kp0 hk7)
            have z7 := hk7.cell z6 (by simp)
            have HK7 : Hid (Kp [] w6 w7) := hide hk7
            have W4 := hide (rcount_ok br n i hi4 v es c w7 (unhide HS7).rb hS (unhide HH))
            clear W3 hk7 z6 HS6
            go_wp2_with fail
            refine (unhide W4).mono ?_
            rintro r w8 ⟨rfl, hk8⟩
            have HK8 : Hid (Kp [] w6 w8) := hide ((unhide HK7).trans hk8 (by simp))
            have WS := hide (ways_any v5 v6 l5 l5 w8 ((unhide HO5').read.kp0 (unhide HK8)) ((unhide HO6).read.kp0 (unhide HK8)) (by omega) true (by simp))
            clear W4 hk8 z7 HS7 HK7
            generalize (c i).h + (c i).k = CT at *
            go_wp2_with fail
            refine (unhide WS).mono ?_
            rintro r w9 ⟨rfl, hk9⟩
            have HK9 : Hid (Kp [] w3 w9) := hide (((unhide HK6).trans (unhide HK8) (by simp)).trans hk9 (by simp))
            have HO9 : Hid (OwP w3.heap.size w9 v5 l5) := hide (own_kp (own_kp (unhide HO5') (unhide HK8) (fun _ _ => by simp)) hk9 (fun _ _ => by simp))
            obtain ⟨g5, cap5, rfl, hg5, hf5⟩ := (unhide HO9).at (unhide hw5).ne
            have HF5 := hide hf5
            clear WS hk9 HO5' HO6 HK8 HK6 HO9 hf5 hw5
            generalize l5.length = n5 at *
            go_wp2_with fail
            go_loopw [23] (fun u wq => ∃ (k : Nat) (f : Nat → Int × Int), k ≤ n5 ∧ u = .int .i64 (k : Int) ∧ Hid (PrF g5 n5 cap5 f wq) ∧ Hid (Kp [] w3 wq)) (fun u _ => n5 - (intOf u).toNat)
            case atStart => exact ⟨0, _, Nat.zero_le _, rfl, HF5, HK9⟩
            case round =>
              clear HF5 HK9
              obtain ⟨k, f, hk, rfl, HF, HKq⟩ := hrel
              by_cases hkn : k < n5
              · have hki : (k : Int) < (n5 : Int) := by omega
                have a1 := (unhide HF).fst k hkn
                have a2 := (unhide HF).snd k hkn
                have f1 := (unhide HF).froz (k * 2)
                have f2 := (unhide HF).froz (k * 2 + 1)
                have HF2 := hide ((unhide HF).put k hkn (-7, -7))
                have HK2 := hide ((unhide HKq).trans (Kp.put2 g5 k (-7, -7) _) (by simp; omega))
                clear HF HKq
                go_wp2_with fail
                go_roundw
                case rel => exact ⟨k + 1, _, by omega, by go_num, HF2, HK2⟩
                case measure => simp [intOf]; omega
              · obtain rfl : k = n5 := by omega
                have hkk : ¬ (k : Int) < (k : Int) := by omega
                go_wp2_with fail
                go_meet
                exact ⟨_, _, _, _, _, hide (((unhide HS3).kp0 (unhide HKq)).up (Nat.le_succ t))⟩
      case rest =>
        obtain ⟨m', n', v', es', c', HS4⟩ := hcut
        clear HS3 HX y0 hx hx2 HS
        generalize wc = w5 at *
        have LN := hide (buLen_any w.heap.size _ _ w5 (unhide HS4).bu)
        have LR := hide (rlen_any br n' m' _ v' es' c' w5 (unhide HS4).rb (unhide HS4).iv ((unhide HS4).iv.sml (by omega)))
        go_wp2_with fail
        refine (unhide LN).mono ?_
        rintro r w6 ⟨rfl, hw6⟩
        obtain rfl := hw6.symm
        clear LN
        go_wp2_with fail
        refine (unhide LR).mono ?_
        rintro r w7 ⟨rfl, hk7⟩
        have HS7 := hide ((unhide HS4).kp0 hk7)
        clear LR hk7 HS4
        go_wp2_with fail
        go_roundw
        case rel => exact ⟨t + 1, m', n', v', es', c', by omega, by omega, by go_num, HS7⟩
        case measure => simp [intOf]; omega
    · have WK := hide (bworks_any wr)
      rcases (show ¬ (t : Int) < (l.length : Int) ∨ ((t : Int) < (l.length : Int) ∧ ¬ (t : Int) < 300) by omega) with i1 | ⟨i1, i2⟩
      all_goals
        go_wp2_with fail
        refine (unhide WK).mono ?_
        rintro r w8 ⟨rfl, hk8⟩
        have HK8 : Hid (Kp [] w w8) := hide ((unhide HS).kp.trans hk8 (by simp))
        clear WK hk8
        go_wp2_with fail
        go_ret
        exact ⟨rfl, (unhide HK8).below (Nat.le_refl _) (by simp)⟩
end Go.Proofs.Ythdfaidjdddagaa
namespace Go.Proofs.Ythdfaidjdddagaa.bufferPlays
open Go.ChangeShapes Go.WideShapes Go.ChangeAt Go.RowKit

theorem laidOut : laidOutB Try.prog = true := by kernel_rfl
theorem own : ownKnob Try.prog.godebug = none := by kernel_rfl
set_option maxRecDepth 100000 in
/-- What the walk gives, for every argument and every world. -/
theorem contract (H : Type) (enc : TypeId × Value → H) (W : World) (base : Nat) (args : Array Value) (ds gs : List (DataW H)) (before : List MemPlace)
    (hval : ∀ (j : Nat) t v, Try.f3.params[j]? = some t → args[j]? = some v → Value.okWide Try.prog W .any base t v)
    (hW : DataW.Whole enc Try.prog Try.f3.params.toList Rows.bufferPlaysSpec.vars false W args.toList ds gs before) :
    Calls Try.prog 3 args W fun e W' => ∃ v, e = .returned v ∧ Rows.bufferPlaysSpec.post enc Try.prog Try.f3 false true false false W args v W' := by
  have hW' := hW
  obtain ⟨p, q, hA0, hV, rfl, hfz, hnd⟩ := hW
  have hA : DataW.TrodAll enc Try.prog W 0 (fun _ => true) true Try.f3.params.toList args.toList ds p := hA0
  rw [Try.params3] at hA hval
  obtain ⟨v0, vs0, d0, ds0, p0, q0, hargs, rfl, rfl, h0, r0⟩ := trodAll_cons hA
  obtain ⟨rfl, rfl, rfl⟩ := trodAll_nil r0
  obtain rfl : args = #[v0] := by cases args; simp_all
  obtain ⟨rfl, rfl⟩ := trodVars_none hV
  have h0k := h0
  obtain ⟨ad0, len0, cap0, rfl⟩ := okWide_slice Try.underlying22 (hval 0 22 v0 rfl rfl)
  obtain ⟨fuel0, hf0⟩ := h0
  obtain ⟨ad0', cap0', l0, he0, hl0, hA10, hok0⟩ := open_acts16 (by simpa [Value.cells] using hf0)
  simp only [Value.slice.injEq] at he0
  obtain ⟨rfl, rfl, rfl⟩ := he0
  clear hA0 hf0
  simp only [List.append_nil] at hW'
  have hlt0 : ∀ x ∈ p0, x.block < W.heap.size := fun x hx => by simpa using hW'.lt x (by simp [hx])
  refine (bplays_walk ad0 cap0 l0 W hl0 hA10 hok0).mono fun e W' ⟨he, hg⟩ => ?_
  subst he
  exact ⟨_, rfl, _, _, _, [], p0 ++ [], [], hW', trodAll_cons_mk (shut_bool Try.underlying4 _) trodAll_mk0, trodAll_cons_mk (Below.trod laidOut (by kernel_rfl) (of_decide_eq_true (by kernel_rfl)) h0k hg hlt0) trodAll_mk0, rfl, hg.frame _, fun h => by cases h⟩

theorem reads (os : Os) {H : Type} (enc : TypeId × Value → H) : ∃ places, DataW.whole enc Try.prog ((World.holding Try.prog os ⟨#[], #[], []⟩).forCall (fun _ _ => 0) ⟨#[], #[.slice none 0 0], []⟩).memory Try.f3.params.toList Rows.bufferPlaysSpec.vars false #[Value.slice none 0 0].toList 8 = some ([.nil], [], places) :=
  ⟨[], by kernel_rfl⟩
set_option maxRecDepth 100000 in
theorem lifted (os : Os) (started : os.Started) (H : Type) (enc : TypeId × Value → H) (F : Stop.Interp) :
    ReturnsInHanded {} Try.checked os 3 .any ((OpenSpec.ofChange Rows.bufferPlaysSpec).preRow enc Try.prog Try.f3 Rows.bufferPlaysRow.domain false Rows.bufferPlaysRow.laid) (((OpenSpec.ofChange Rows.bufferPlaysSpec).at F).post enc Try.prog Try.f3 false true false false) := by
  obtain ⟨places, hx⟩ := reads os enc
  refine returnsInHanded_of_row (C := Try.checked) (s := OpenSpec.ofChange Rows.bufferPlaysSpec) own started (by kernel_rfl) Try.func3
    (witness_row_at (enc := enc) (C := Try.checked) false (World.holding Try.prog os ⟨#[], #[], []⟩) #[.slice none 0 0] rfl (by kernel_rfl) (by kernel_rfl) (by kernel_rfl)
      (OpenSpec.preRow_of_cond 8 hx (by kernel_rfl) (fun k hk => by cases hk) (by kernel_rfl) (laidMet_of_run' 8 (by kernel_rfl) (by kernel_rfl)))) ?_
  intro W base args ds gs before hval hW _ _ _ _ _ _
  exact contract H enc W base args ds gs before hval hW
end Go.Proofs.Ythdfaidjdddagaa.bufferPlays
namespace Go.Proofs.Ythdfaidjdddagaa
/-- For all rows of acts BufferPlays returns true. -/
theorem bufferPlays_said : Rows.BufferPlaysSaid :=
  OpenClaim.holds_of_cond 3 Try.f3 rfl rfl rfl rfl rfl rfl rfl ⟨rfl, rfl, rfl, rfl, rfl⟩ rfl rfl rfl rfl rfl (by kernel_rfl) Try.func3 (by kernel_rfl)
    (of_decide_eq_true (by kernel_rfl)) (by unfold Func.isWrapper; first | (rw [if_pos (by decide +kernel)]; kernel_rfl) | (rw [if_neg (by decide +kernel)]; exact ⟨rfl, rfl⟩))
    (fun os started H enc _ F => by rw [OpenClaim.pre_eq_preRow]; exact bufferPlays.lifted os started H enc F)
end Go.Proofs.Ythdfaidjdddagaa
