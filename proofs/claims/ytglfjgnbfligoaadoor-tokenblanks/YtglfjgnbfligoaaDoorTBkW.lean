/-
  TokenBack: its walk.
-/
import Derived.Test.YtglfjgnbfligoaaDoorTBkP
import Derived.Deep.DeepCutAuto
import Derived.Deep.QuietTactic
namespace Go.Proofs.YtglfjgnbfligoaaDoor
open Go.RowKit

/-- Two faults held against one another. -/
theorem eqF (d : Nat) (a c a' c' : Int) (w : World) : (Op.equalIn (d + 2) 25 (.agg #[.int .i64 a, .int .i64 c]) (.agg #[.int .i64 a', .int .i64 c'])).run Tryd.prog w = .ok (a == a' && c == c') w := by
  have hi := fun (a b : Int) (w : World) => run_equalIn_int (P := Tryd.prog) w d 3 .i64 .i64 a b Tryd.underlying3
  have he := fun (a b : Int) (w : World) => run_equalIn_int (P := Tryd.prog) w d 23 .i64 .i64 a b Tryd.underlying23
  unfold Op.equalIn
  simp only [Sem.run_bind, run_underlying Tryd.underlying25, Result.andThen_ok]
  simp [part, Tryd.sizeOf3, Tryd.sizeOf23, go_sem, hi, he]
  by_cases h0 : a = a' <;> by_cases h1 : c = c' <;> simp [h0, h1]
/-- Whether Tokens tells no fault, and what it tells then. -/
theorem tsR_flt (s : ByteArray) : ((tsA (tsR s) == 0 && tsC (tsR s) == 0) = true ∧ ∃ ts, tsL s.size (tsR s) = ts ++ [endK s.size] ∧ (∀ t ∈ ts, wrOk t = true) ∧ ts.length ≤ 4096) ∨ ((tsA (tsR s) == 0 && tsC (tsR s) == 0) = false ∧ (tsL s.size (tsR s)).length = 0) := by
  rcases tsR_code s with ⟨ts, hr, htk, hsz⟩ | ⟨hlz, hc⟩
  · obtain ⟨h4, hwr⟩ := toks_ok _ 0 0 ts htk (by omega)
    refine Or.inl ⟨by rw [hr]; rfl, ts, by rw [hr]; rfl, hwr, by omega⟩
  · refine Or.inr ⟨?_, by rw [hlz]; rfl⟩
    have : (tsC (tsR s) == 0) = false := by simpa using hc
    rw [this, Bool.and_false]
set_option maxHeartbeats 1000000 in
set_option maxRecDepth 100000 in
theorem back_walk (s : ByteArray) (ad : Option Addr) (cap : Nat) (l : List Tk) (w : World) (hl : l.length ≤ 9223372036854775807) (hcap : l.length ≤ cap) (hA : TksAt w ad l) (hok : ∀ t ∈ l, t.ok) (hs : s.size ≤ 9223372036854775807) (hT : TbW w) :
    Calls Tryd.prog 5 #[.string s, .slice ad l.length cap] w fun e w' => e = .returned (.bool true) ∧ Kp [] w w' := by
  have hlow := hT.low
  have TK := fun W hW => tokens_any s W hW hs
  have HA := hide hA
  have HOK := hide hok
  clear hA hok
  have HFL := hide (tsL_ok s)
  have HLL := hide (tsL_len s)
  have HCS := hide (tsR_flt s)
  have EQ : ∀ W, (Op.equalIn 10000 25 (.agg #[.int .i64 (tsA (tsR s)), .int .i64 (tsC (tsR s))]) (.agg #[.int .i64 0, .int .i64 0])).run Tryd.prog W = .ok (tsA (tsR s) == 0 && tsC (tsR s) == 0) W := fun W => eqF 9998 _ _ _ _ W
  generalize (tsA (tsR s) == 0 && tsC (tsR s) == 0) = FB at *
  generalize tsA (tsR s) = A at *
  generalize tsC (tsR s) = C at *
  generalize tsL s.size (tsR s) = L at *
  have HTK : Hid (∀ W, TbW W → Calls Tryd.prog 9 #[.string s] W fun e w' => ∃ a2 n2 c2, e = .returned (.tuple #[.slice a2 n2 c2, .agg #[.int .i64 A, .int .i64 C]]) ∧ n2 = L.length ∧ OwnsK W.heap.size w' (.slice a2 n2 c2) L ∧ Below W.heap.size W w') := hide (fun W hW => (TK W hW).mono fun e w' ⟨v, h1, h2, h3⟩ => by
    obtain ⟨a2, c2, rfl, _⟩ := h2.at
    exact ⟨a2, L.length, c2, h1, rfl, h2, h3⟩)
  clear TK
  go_enter Tryd.func5, Tryd.ntmps5
  go_wp2_with fail
  refine (tworks_any w hT).mono ?_
  rintro e w1 ⟨rfl, hb1⟩
  have hT1 := hT.below hb1 hlow
  have hl1 := hb1.size
  have HB1 := hide hb1
  clear hb1
  go_wp2_with fail
  refine (unhide HTK _ hT1).mono ?_
  rintro e w2 ⟨a2, n2, c2, rfl, hn2, hO2, hb2⟩
  have hT2 : TbW (w2.alloc (.cells #[.int .i64 A, .int .i64 C] 25)) := (hT1.below hb2 hT1.low).alloc _
  have hl2 := hb2.size
  have hb12 : Below w.heap.size w (w2.alloc (.cells #[.int .i64 A, .int .i64 C] 25)) := ((unhide HB1).trans (hb2.mono hl1)).alloc (by omega) _
  have hO3 : OwnsK w1.heap.size (w2.alloc (.cells #[.int .i64 A, .int .i64 C] 25)) (.slice a2 n2 c2) L := hO2.alloc _
  have hlw : w.heap.size ≤ (w2.alloc (.cells #[.int .i64 A, .int .i64 C] 25)).heap.size := hb12.size
  have HN2 := hide hn2
  have HB2 := hide hb12
  have HO3 := hide hO3
  clear hb2 hT1 hO2 hO3 hb12 hn2 hl2 HTK HB1
  go_upto_if 26 with fail
  clear EQ
  generalize w2.alloc (.cells #[.int .i64 A, .int .i64 C] 25) = W2 at *
  go_cut [] (fun wc => Hid (Below w.heap.size w wc))
  case first =>
    rcases unhide HCS with ⟨rfl, ts, rfl, hwr, h4⟩ | ⟨rfl, hl0⟩
    · have hL : (ts ++ [endK s.size]).length = ts.length + 1 := by simp
      have hn2 := unhide HN2
      rw [hL] at hn2
      obtain ⟨gx, cpx, hvx, hgx, hgxl, hRx⟩ := (unhide HO3).row (by simp)
      obtain ⟨ax, cpx2, hv2, hAx, hcx⟩ := (unhide HO3).at
      injection hvx with ea en ec
      subst ea
      injection hv2 with ea2 en2 ec2
      subst ea2
      subst ec
      subst ec2
      have hgxw : w.heap.size ≤ gx := by omega
      have JO := join_any (some ⟨gx, 0, none⟩) c2 (ts ++ [endK s.size]) W2 hT2 (by rw [hL]; omega) hcx hAx (unhide HFL)
      rw [joR_end ts s.size hwr h4, hL, ← hn2] at JO
      have hnN : n2 = ts.length + 1 := hn2
      have hn2b : n2 ≤ 4097 := by omega
      clear en en2 hcx hAx HO3 HFL HLL HN2 hn2
      by_cases hbig : 262144 < (joinB ts).length
      · rw [if_pos hbig] at JO
        have HJO : Hid (Calls Tryd.prog 14 #[.slice (some ⟨gx, 0, none⟩) n2 c2] W2 fun e w' => e = .returned (.tuple #[.string ⟨#[]⟩, .int .i64 2]) ∧ Below W2.heap.size W2 w') := hide JO
        clear JO hRx hnN hL hwr h4 hbig
        go_wp2_with fail
        refine (unhide HJO).mono ?_
        rintro e w3 ⟨rfl, hb3⟩
        have HK : Hid (Kp [] w w3) := hide (Kp.ofBelow ((unhide HB2).trans (hb3.mono hlw)))
        clear hb3
        go_wp2
        go_ret
        exact ⟨rfl, unhide HK⟩
      · rw [if_neg hbig] at JO
        obtain ⟨ts2, hr2, hal⟩ := join_back ts hwr h4 (by omega)
        have TK2 := fun W hW => tokens_any (txt (joinB ts)) W hW (by rw [txt_size]; omega)
        rw [hr2] at TK2
        have hsz2 : (txt (joinB ts)).size = (joinB ts).length := rfl
        have hALL : Alike (ts ++ [endK s.size]) (ts2 ++ [endK (txt (joinB ts)).size]) := Alike.snoc ⟨hal.1.symm, fun i a b => by have := hal.2 i b a; exact ⟨this.1.symm, this.2.1.symm, this.2.2.symm⟩⟩ ⟨rfl, rfl, rfl⟩
        have hlen2 : (ts2 ++ [endK (txt (joinB ts)).size]).length = n2 := by rw [← hALL.1, hL, hnN]
        have HJO : Hid (Calls Tryd.prog 14 #[.slice (some ⟨gx, 0, none⟩) n2 c2] W2 fun e w' => e = .returned (.tuple #[.string (txt (joinB ts)), .int .i64 0]) ∧ Below W2.heap.size W2 w') := hide JO
        have HTK2 : Hid (∀ W, TbW W → Calls Tryd.prog 9 #[.string (txt (joinB ts))] W fun e w' => ∃ gy cy, e = .returned (.tuple #[.slice (some ⟨gy, 0, none⟩) n2 cy, .agg #[.int .i64 0, .int .i64 0]]) ∧ W.heap.size ≤ gy ∧ gy < w'.heap.size ∧ RowK gy (ts2 ++ [endK (txt (joinB ts)).size]) w' ∧ Below W.heap.size W w') := hide (fun W hW => (TK2 W hW).mono fun e w' ⟨v, h1, h2, h3⟩ => by
          have h2' : OwnsK W.heap.size w' v (ts2 ++ [endK (txt (joinB ts)).size]) := h2
          obtain ⟨gy, cy, rfl, a, b, c⟩ := h2'.row (by simp)
          rw [hlen2] at h1
          exact ⟨gy, cy, h1, a, b, c, h3⟩)
        have hL1 : (ts ++ [endK s.size]).length = n2 := by rw [hL, hnN]
        clear JO TK2 hr2 hal hsz2 hL hbig
        generalize txt (joinB ts) = J at *
        generalize ts2 ++ [endK J.size] = L2 at *
        generalize ts ++ [endK s.size] = L1 at *
        have HAL := hide hALL
        have HL1 := hide hL1
        have HL2 := hide hlen2
        have HRX := hide hRx
        clear hALL hL1 hlen2 hRx hnN hwr h4
        go_wp2_with fail
        refine (unhide HJO).mono ?_
        rintro e w3 ⟨rfl, hb3⟩
        have hT3 := hT2.below hb3 hT2.low
        have hl3 := hb3.size
        have HB3 := hide hb3
        clear hb3 HJO
        go_wp2_with fail
        refine (unhide HTK2 _ hT3).mono ?_
        rintro e w4 ⟨gy, cy, rfl, hgy, hgyl, hRy, hb4⟩
        have hl4 := hb4.size
        have hRx4 : RowK gx L1 (w4.alloc (.cells #[.int .i64 0, .int .i64 0] 25)) := (((unhide HRX).kp (Kp.ofBelow (unhide HB3)) (by simp)).kp (Kp.ofBelow hb4) (by simp)).kp (Kp.alloc _ _) (by simp)
        have hRy4 : RowK gy L2 (w4.alloc (.cells #[.int .i64 0, .int .i64 0] 25)) := hRy.kp (Kp.alloc _ _) (by simp)
        have hB4 : Below w.heap.size w (w4.alloc (.cells #[.int .i64 0, .int .i64 0] 25)) := (((unhide HB2).trans ((unhide HB3).mono hlw)).trans (hb4.mono (by omega))).alloc (by omega) _
        have hne : gx ≠ gy := by omega
        have hgyw : w.heap.size ≤ gy := by omega
        clear hRy hb4 HB3 HRX
        go_wp2_with fail
        generalize w4.alloc (.cells #[.int .i64 0, .int .i64 0] 25) = W4 at *
        have HB4 := hide hB4
        clear hB4
        go_loopw [57] (fun i wr => ∃ k : Nat, k ≤ n2 ∧ i = .int .i64 (k : Int) ∧ Kp [gx, gy] W4 wr ∧ RowK gx L1 wr ∧ RowK gy L2 wr) (fun i _ => n2 - (intOf i).toNat)
        case atStart => exact ⟨0, Nat.zero_le _, rfl, Kp.refl _ _, hRx4, hRy4⟩
        case round =>
          obtain ⟨k, hk, rfl, hkp, hrx, hry⟩ := hrel
          by_cases hlt : k < n2
          · have hk1 : k < L1.length := by rw [unhide HL1]; exact hlt
            have hk2 : k < L2.length := by rw [unhide HL2]; exact hlt
            obtain ⟨x0, x1, x2, ⟨xv, x3⟩, fx⟩ := hrx.cells k hk1
            obtain ⟨y0, y1, y2, ⟨yv, y3⟩, fy⟩ := hry.cells k hk2
            have y3' := (Kp.set wr gx (k * 4 + 3) (.int .i64 0)).cell y3 (by simp; omega)
            have fy' : (wr.setCell ⟨gx, k * 4 + 3, none⟩ (.int .i64 0)).frozen? ⟨gy, k * 4 + 3, none⟩ = false := (hry.kp (Kp.set wr gx (k * 4 + 3) (.int .i64 0)) (by simp; omega)).cells k hk2 |>.2.2.2.2
            have TR := two_rows hrx hry hne hk1 hk2 (unhide HAL)
            have HTR := hide TR
            have HKP := hide hkp
            clear TR hkp hrx hry x0 x1 x2 y0 y1 y2 hk1 hk2 y3 fy
            go_wp2_with fail
            obtain ⟨W5, hW5, hrx5, hry5, hkp5, ka, kb, kc, x0, x1, x2, x3', y0, y1, y2, y3⟩ := unhide HTR
            rw [← hW5]
            have HKP5 : Hid (Kp [gx, gy] W4 W5) := hide ((unhide HKP).trans hkp5 (by simp))
            have HX5 := hide hrx5
            have HY5 := hide hry5
            clear hW5 hrx5 hry5 hkp5 HTR HKP x3 y3' fx fy'
            go_quiet (fail)
            go_wp2
            go_roundw
            case rel => exact ⟨k + 1, by omega, by go_num, (unhide HKP5).trans (Kp.drewQ _ _) (by simp), (unhide HX5).kp (Kp.drewQ _ _) (by simp), (unhide HY5).kp (Kp.drewQ _ _) (by simp)⟩
            case measure => simp [intOf]; omega
          · have HBE : Hid (Below w.heap.size w wr) := hide ((unhide HB4).trans (hkp.below (by have := (unhide HB4).size; omega) (by simp; omega)))
            clear hkp hrx hry
            go_wp2
            go_meet
            exact HBE
    · have e := unhide HN2
      rw [hl0] at e
      subst e
      go_wp2
      go_meet
      exact HB2
  case rest =>
    have hBC := unhide hcut
    have hTc := hT.below hBC hlow
    have hlc := hBC.size
    have hAc := (unhide HA).kp (Kp.ofBelow hBC)
    have JO := join_any ad cap l wc hTc hl hcap hAc (unhide HOK)
    have HBC := hide hBC
    have HAC := hide hAc
    clear hcut hBC hAc HCS HFL HLL HO3 HN2 HB2 hT2 hlw HA hT
    generalize wc = Wc at *
    by_cases hE : (joR l).2 = 0
    · obtain ⟨j1, j2, j3, j4, j5, j6⟩ := joR_ok l hE
      rw [hE, j3] at JO
      obtain ⟨ts, hr, hal⟩ := join_back (cutL l) j1 j2 j4
      have TK2 := fun W hW => tokens_at (txt (joinB (cutL l))) W hW (by rw [txt_size]; omega)
      rw [hr] at TK2
      have hY : tsL (txt (joinB (cutL l))).size (.good ts) = ts ++ [endK (txt (joinB (cutL l))).size] := rfl
      rw [hY, List.length_append, List.length_singleton] at TK2
      have HTK2 : Hid (∀ W, TbW W → Calls Tryd.prog 9 #[.string (txt (joinB (cutL l)))] W fun e w' => ∃ ay cy, e = .returned (.tuple #[.slice ay (ts.length + 1) cy, .agg #[.int .i64 0, .int .i64 0]]) ∧ TksAt w' ay (ts ++ [endK (txt (joinB (cutL l))).size]) ∧ ts.length + 1 ≤ cy ∧ Below W.heap.size W w') := hide (fun W hW => (TK2 W hW).mono fun e w' ⟨ay, cy, h1, h2, h3, _, h4⟩ => ⟨ay, cy, h1, h2, h3, h4⟩)
      have hts : ts.length ≤ 4096 := by rw [hal.1]; exact j2
      have HBE := hide (fun n => back_end (n := n) hal j5 j6)
      have HBA := hide (back_all hal)
      have HJO := hide JO
      clear JO TK2 hr hal hY j1 j2 j3 j4 j5 j6 hE
      generalize txt (joinB (cutL l)) = J at *
      go_wp2_with fail
      refine (unhide HJO).mono ?_
      rintro e w3 ⟨rfl, hb3⟩
      have hT3 := hTc.below hb3 hTc.low
      have hl3 := hb3.size
      have HB3 := hide hb3
      clear hb3 HJO
      go_wp2_with fail
      refine (unhide HTK2 _ hT3).mono ?_
      rintro e w4 ⟨ay, cy, rfl, hAy, hcy, hb4⟩
      have hl4 := hb4.size
      have HB4 : Hid (Below w.heap.size w (w4.alloc (.cells #[.int .i64 0, .int .i64 0] 25))) := hide ((((unhide HBC).trans ((unhide HB3).mono hlc)).trans (hb4.mono (by omega))).alloc (by omega) _)
      have hA4 : TksAt (w4.alloc (.cells #[.int .i64 0, .int .i64 0] 25)) ad l := (((unhide HAC).kp (Kp.ofBelow (unhide HB3))).kp (Kp.ofBelow hb4)).kp (Kp.alloc _ _)
      have hAy4 := hAy.kp (Kp.alloc w4 (.cells #[.int .i64 0, .int .i64 0] 25))
      obtain ⟨by_, oy, rfl, _⟩ := hAy.at 0 (by simp)
      have HA4 := hide hA4
      have HAY := hide hAy4
      clear hb4 HB3 hAy hA4 hAy4 HAC
      go_upto_region 26 with fail
      generalize w4.alloc (.cells #[.int .i64 0, .int .i64 0] 25) = W4 at *
      go_cut [115] (fun c wx => c = .bool (!isEnd l) ∧ wx = W4)
      case first =>
        by_cases hnil : l = []
        · have gl : ((l.length : Int) == 0) = true := by rw [hnil]; rfl
          have HE : Hid (isEnd l = false) := by rw [hnil]; exact hide rfl
          clear hnil
          go_wp2
          go_meet
          exact ⟨by rw [unhide HE]; rfl, rfl⟩
        · obtain ⟨m, hm⟩ : ∃ m, l.length = m + 1 := ⟨l.length - 1, by have := List.length_pos_iff.2 hnil; omega⟩
          have gl : ((l.length : Int) == 0) = false := by simp; omega
          have hm1 : (l.length : Int) - 1 = (m : Int) := by omega
          have hml : m < l.length := by omega
          obtain ⟨b, off, rfl, hbl, c0, _, _, _⟩ := (unhide HA4).at m hml
          have HE := hide (isEnd_at l m hm)
          generalize l[m].kd = kd at *
          clear hnil hm
          go_wp2
          go_meet
          exact ⟨by rw [unhide HE]; rfl, rfl⟩
      case rest =>
        obtain ⟨rfl, rfl⟩ := hcut
        generalize heb : isEnd l = eb
        have HEB := hide heb
        clear heb
        go_upto_if 115 with fail
        go_cut [14] (fun v wx => ∃ cp Y, v = .slice (some ⟨by_, oy, none⟩) l.length cp ∧ Hid (TksAt wx (some ⟨by_, oy, none⟩) Y) ∧ Hid (Alike Y l) ∧ wx = wc)
        case first =>
          cases eb with
          | true =>
            have hal := unhide HBE J.size (unhide HEB)
            have hll : ts.length + 1 = l.length := by rw [← hal.1]; simp
            have HLL := hide hll
            have HAL := hide hal
            clear hal hll
            go_wp2
            go_meet
            exact ⟨cy, _, by rw [unhide HLL], HAY, HAL, rfl⟩
          | false =>
            have hal := unhide HBA (unhide HEB)
            have HLL := hide hal.1
            have HAL := hide hal
            have HAY2 := hide (by have := (unhide HAY).take ts.length; rw [List.take_left' rfl] at this; exact this : TksAt wc (some ⟨by_, oy, none⟩) ts)
            clear hal
            go_wp2
            go_meet
            exact ⟨cy, _, by rw [← unhide HLL], HAY2, HAL, rfl⟩
        case rest =>
          obtain ⟨cp, Y, rfl, HY, HAL, rfl⟩ := hcut
          clear HAY HBE HBA hcy
          go_wp2_with fail
          have HAL2 := hide (unhide HAL).1
          generalize wc = W7 at *
          go_loopw [128] (fun i wr => ∃ k : Nat, k ≤ l.length ∧ i = .int .i64 (k : Int) ∧ Kp [] W7 wr) (fun i _ => l.length - (intOf i).toNat)
          case atStart => exact ⟨0, Nat.zero_le _, rfl, Kp.refl _ _⟩
          case round =>
            obtain ⟨k, hk, rfl, hkp⟩ := hrel
            have HKP := hide hkp
            by_cases hlt : k < l.length
            · obtain ⟨b, off, rfl, _, x0, x1, x2, _⟩ := ((unhide HA4).kp hkp).at k hlt
              have hky : k < Y.length := by rw [unhide HAL2]; exact hlt
              obtain ⟨b', off', hey, _, y0, y1, y2, y3⟩ := ((unhide HY).kp hkp).at k hky
              injection hey with hey
              injection hey with e1 e2
              subst e1
              subst e2
              obtain ⟨e0, e1, e2⟩ := (unhide HAL).2 k hky hlt
              rw [e0] at y0
              rw [e1] at y1
              rw [e2] at y2
              generalize l[k].kd = kd at *
              generalize l[k].s = ks at *
              generalize l[k].n = kn at *
              clear e0 e1 e2 hkp y3
              go_wp2_with fail
              go_quiet (fail)
              go_wp2
              go_roundw
              case rel => exact ⟨k + 1, by omega, by go_num, (unhide HKP).trans (Kp.drewQ _ _) (by simp)⟩
              case measure => simp [intOf]; omega
            · clear hkp
              go_wp2
              go_ret
              exact ⟨rfl, (Kp.ofBelow (unhide HB4)).trans (unhide HKP) (by simp)⟩
    · have hJ := joR_err l hE
      rw [hJ] at JO
      have g : ((joR l).2 != 0) = true := by simpa using hE
      generalize (joR l).2 = E at *
      have HJO : Hid (Calls Tryd.prog 14 #[.slice ad l.length cap] Wc fun e w' => e = .returned (.tuple #[.string ⟨#[]⟩, .int .i64 E]) ∧ Below Wc.heap.size Wc w') := hide JO
      clear JO hE hJ
      go_wp2_with fail
      refine (unhide HJO).mono ?_
      rintro e w3 ⟨rfl, hb3⟩
      have HK : Hid (Kp [] w w3) := hide (Kp.ofBelow ((unhide HBC).trans (hb3.mono hlc)))
      clear hb3
      go_wp2
      go_ret
      exact ⟨rfl, unhide HK⟩
end Go.Proofs.YtglfjgnbfligoaaDoor
