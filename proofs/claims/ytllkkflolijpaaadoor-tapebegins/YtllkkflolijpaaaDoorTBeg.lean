/-
  TapeBegins: behind any crashes a tape has a beginning of what was appended: the law returns true, whatever the stretches.
-/
import Derived.Test.YtllkkflolijpaaaDoorTBeS
import Derived.Deep.QuietTactic
import Derived.BigQuiet
import Derived.Deep.RegionHeld3
import Derived.Deep.DeepCutAuto
import Derived.Deep.CutBlock
namespace Go.Proofs.YtllkkflolijpaaaDoor
open Go.RowKit

theorem wpList_has {ops : Array Oper} {rest : List Oper} {o : Oper} {a : Act} {Q : Exit → Act → World → Prop} {w : World} (hg : o.guard = none) (s x : Operand) (hop : o.op = Op.call { callee := Callee.builtin Builtin.append, args := #[s, x], argTypes := #[26, 26] })
    {hv ov : Value} {A ts : List (List UInt8)} (hs : a.eval s = ov) (hx : a.eval x = hv) (h : Txs w hv ts) (ho : Txs w ov A) (hov : ov ≠ .slice none 0 0) (hl : A.length + ts.length ≤ 3000000)
    (hK : ∀ v' w', Txs w' v' (A ++ ts) → w.grownBy w' ov.ownBlock → (v'.ownBlock = ov.ownBlock ∨ v'.ownBlock = some w.heap.size) → v' ≠ .slice none 0 0 → wpList Tryd.prog ops Q rest (a.put o.dst v') w') : wpList Tryd.prog ops Q (o :: rest) a w := by
  refine wpList_plain hg fun K hKK => ?_
  obtain ⟨v', w', hrun, h1, h2, h3, h4⟩ := appHas h ho hov hl o.type
  unfold Oper.wp
  simp [execOp, hop, resolve, invoke, builtin, hs, hx, hrun, Result.andThen]
  exact hKK _ _ (hK v' w' h1 h2 h3 h4)
theorem txs_empty (w : World) : Txs (w.alloc (.cells #[] 9)) (.slice (some ⟨w.heap.size, 0, none⟩) 0 0) [] :=
  ⟨rfl, Or.inr ⟨w.heap.size, 0, #[], rfl, Nat.zero_le _, CBox.new w _ _, Nat.le_refl _, by unfold maxLen; omega, rfl, rfl⟩⟩
theorem strNe4 {a : ByteArray} (h : a ≠ ⟨#[]⟩) : (a.toList == []) = false := beq_eq_false_iff_ne.2 fun e => h (by
  rw [ByteArray.toList_eq] at e
  apply ByteArray.ext
  exact Array.toList_inj.1 e)
theorem HdS.kp {w0 w w' : World} {p : Nat} {d : Dk} {hv : Value} {ts : List (List UInt8)} {i : Nat} (h : HdS w0 w p d hv ts i) (hk : Kp [] w w') : HdS w0 w' p d hv ts i := ⟨h.own.kp hk, h.row.kp hk (by simp), h.low, h.st⟩
set_option maxHeartbeats 8000000 in
set_option maxRecDepth 100000 in
theorem begins_walk (ad : Option Addr) (cap : Nat) (l : List G4) (w : World) (_hl : l.length ≤ 9223372036854775807) (hA : Gos w ad l) (hok : ∀ y ∈ l, y.ok) (hT : TabW w) :
    Calls Tryd.prog 3 #[.slice ad l.length cap] w fun e w' => e = .returned (.bool true) ∧ Kp [] w w' := by
  have W1 := hide (fun W (h : Kp [] w W) => works_any W (hT.kp h (by simp)))
  have HT := hide hT
  have HA := hide hA
  have HOK := hide hok
  obtain ⟨i0, hi, hz0, hz1, hz2⟩ := info_parts info_string
  clear hT hA hok
  go_enter Tryd.func3, Tryd.ntmps3
  go_wp2_with fail
  refine (new_own w).mono ?_
  rintro e w1 ⟨p, rfl, q1⟩
  go_wp2_with fail
  refine (unhide W1 w1 q1.bel).mono ?_
  rintro e w2 ⟨rfl, k2⟩
  have HR : Hid (HdS w w2 p Dk.new (.slice none 0 0) [] 0) := hide ⟨q1.kp k2, OwnsS.nil _ _, fun k hk => by simp [Value.ownBlock] at hk, St.new⟩
  clear q1 k2 W1
  go_wp2
  go_loopw [4, 5] (fun o i wr => ∃ (k : Nat) (d : Dk) (hv : Value) (ts : List (List UInt8)), k ≤ l.length ∧ k ≤ 12 ∧ i = .int .i64 (k : Int) ∧ hv = o ∧ Hid (HdS w wr p d hv ts k)) (fun _ i _ => 12 - (intOf i).toNat)
  case atStart => exact ⟨0, _, _, _, Nat.zero_le _, by omega, rfl, rfl, HR⟩
  case round =>
    clear HR
    obtain ⟨k, d, hv, ts, hk, h12, rfl, rfl, HR⟩ := hrel
    by_cases hgo : k < l.length ∧ k < 12
    · obtain ⟨hlt, hl8⟩ := hgo
      have hli : (k : Int) < (l.length : Int) := by omega
      have hl8i : (k : Int) < 12 := by omega
      obtain ⟨b, off, rfl, hbl, hc⟩ := (unhide HA) (by intro h; rw [h] at hlt; simp at hlt)
      have HC : Hid (∀ W, Kp [] w W → W.cell? ⟨b, off + k * 4, none⟩ = some (.slice l[k].ad l[k].L.length l[k].cap) ∧ W.cell? ⟨b, off + k * 4 + 1, none⟩ = some (.int .i64 l[k].fuse) ∧ W.cell? ⟨b, off + k * 4 + 2, none⟩ = some (.int .i64 l[k].keep) ∧ W.cell? ⟨b, off + k * 4 + 3, none⟩ = some (.int .i64 l[k].torn) ∧ TextsAt W l[k].ad l[k].L) := hide (fun W hW => by
        obtain ⟨c0, c1, c2, c3, c4⟩ := hc k hlt
        exact ⟨hW.cell c0 (by simp), hW.cell c1 (by simp), hW.cell c2 (by simp), hW.cell c3 (by simp), c4.kp hW⟩)
      have HYO := hide (unhide HOK l[k] (List.getElem_mem hlt))
      clear hc hbl
      generalize l[k] = y at *
      have OP := hide ((unhide HR).open (unhide HT))
      have HST := hide (unhide HR).st
      have hfew : ts.length ≤ 240 := by have := (unhide HR).st.few; omega
      obtain ⟨hva, hvc, hvs, _⟩ := (unhide HR).row.texts
      clear HR
      go_wp2_with fail
      refine (unhide OP).mono ?_
      rintro r w3 ⟨t, v, rfl, q3, r3⟩
      have HQ3 := hide q3
      have HR3 := hide r3
      clear q3 r3 OP
      subst hvs
      rcases Nat.eq_zero_or_pos k with hk0 | hk0
      all_goals
        first
          | (have hg0 : ¬ ((0 : Int) < (k : Int)) := by omega
             obtain ⟨d1, hd1⟩ : ∃ d1, d1 = d := ⟨d, rfl⟩
             have HBG : Hid (Bg d1 ts []) := hide (by rw [hd1]; exact St.bg0 (hk0 ▸ unhide HST))
             rw [← hd1] at HQ3
             have HQ4 := HQ3
             have HR4 := HR3
             clear hd1 HQ3 HR3 hk0
             go_wp2_with fail)
          | (have hg0 : (0 : Int) < (k : Int) := by omega
             obtain ⟨se, sb⟩ := (unhide HST).sync (by omega)
             have SY := (unhide HQ3).sync
             rw [se] at SY
             have SY := hide SY
             have HBG := hide sb
             clear se sb
             go_wp2_with fail
             refine (unhide SY).mono ?_
             rintro r w5 ⟨rfl, q5, o5⟩
             have HQ4 := hide q5
             have HR4 := hide ((unhide HR3).oth o5 (by simp))
             clear q5 o5 SY HQ3 HR3
             generalize d.syD = d1 at *
             go_wp2_with fail)
        refine (len_any t p ⟨#[108, 111, 103]⟩ v ts _ (unhide HQ4).at).mono ?_
        rintro r w6 ⟨rfl, rfl⟩
        obtain ⟨_, c1, _, _, _⟩ := unhide HC _ (unhide HQ4).bel
        obtain ⟨M, hM, eM⟩ : ∃ M : Nat, M < 40 ∧ y.fuse % 40 = (M : Int) := ⟨(y.fuse % 40).toNat, by omega, by omega⟩
        have AM := hide (fun W => among_any y.fuse 40 W (by decide) (by decide))
        rw [eM] at AM
        obtain ⟨fe, fb⟩ := (unhide HBG).fuse (M : Int) (by omega)
        have FU := (unhide HQ4).fuse (M : Int) (by omega)
        rw [fe] at FU
        have FU := hide FU
        have HBG2 := hide fb
        clear fe fb eM HBG
        generalize d1.fuD (M : Int) = d2 at *
        go_wp2_with fail
        refine (unhide AM _).mono ?_
        rintro r w7 ⟨rfl, rfl⟩
        go_wp2_with fail
        refine (unhide FU).mono ?_
        rintro r w8 ⟨rfl, q8, o8⟩
        have hr9 : Txs (w8.alloc (.cells #[] 9)) (.slice hva ts.length hvc) ts := ((unhide HR4).oth o8 (by simp)).kp (Kp.alloc w8 _) (by simp)
        have HQ8 := hide q8
        have HR8 := hide ((unhide HR4).oth o8 (by simp))
        have hll : ([] : List (List UInt8)).length + ts.length ≤ 3000000 := by simp; omega
        clear q8 o8 AM FU HQ4 HR4 c1
        go_upto_block 2 with (at_builtin; refine wpList_has (ov := .slice (some ⟨w8.heap.size, 0, none⟩) 0 0) (A := []) rfl _ _ rfl rfl rfl hr9 (txs_empty w8) (by simp) hll ?_; intro mv w9 g1 g2 g3 g4; have HG3 := hide g3; have HG4 := hide g4; clear g3 g4)
        have HBS := hide (beg_start (unhide HQ8) (unhide HBG2) (unhide HR8) g1 g2 (unhide HG3) (unhide HG4))
        clear g1 g2 HG3 HG4 HQ8 HR8 HBG2 hr9
        go_cut [8, 9, 10, 11, 12] (fun s8 s9 _ _ _ wc => ∃ (base xs : List (List UInt8)) (dd : Dk) (vv mm : Value), s8 = .int .i64 (base.length : Int) ∧ mm = s9 ∧ Hid (BgS w wc p t dd vv mm base xs) ∧ Hid ((base ++ xs).length ≤ ts.length + 20))
        case first =>
          go_wp2_with fail
          go_loopw [8, 9, 10] (fun s8 s9 s10 wr => ∃ (j : Nat) (base xs : List (List UInt8)) (dd : Dk) (vv mm : Value), j ≤ 20 ∧ s10 = .int .i64 (j : Int) ∧ s8 = .int .i64 (base.length : Int) ∧ mm = s9 ∧ Hid (BgS w wr p t dd vv mm base xs) ∧ Hid ((base ++ xs).length ≤ ts.length + j) ∧ Hid (xs.length ≤ j)) (fun _ _ s10 _ => 20 - (intOf s10).toNat)
          case atStart => exact ⟨0, ts, [], d2, v, mv, by omega, rfl, rfl, rfl, HBS, hide (by simp), hide (by simp)⟩
          case round =>
            clear HBS
            obtain ⟨j, base, xs, dd, vv, mm, hj, rfl, rfl, rfl, HBS, HN, HX⟩ := hrel
            obtain ⟨c0, _, _, _, ct⟩ := unhide HC _ (unhide HBS).own.bel
            obtain ⟨em, _⟩ | ⟨gm, cm, hms, _, hcm⟩ := (unhide HBS).row.shape
            · exact absurd em (unhide HBS).nn
            obtain ⟨NL, hNL⟩ : ∃ NL, (base ++ xs).length = NL := ⟨_, rfl⟩
            rw [hNL] at hms
            have HNL := hide hNL
            subst hms
            clear hNL
            by_cases hgo2 : j < y.L.length ∧ j < 20
            · obtain ⟨hj1, hj2⟩ := hgo2
              have hj1i : (j : Int) < (y.L.length : Int) := by omega
              have hj2i : (j : Int) < 20 := by omega
              obtain ⟨b2, off2, hya, _, hcell⟩ := ct (by intro h; rw [h] at hj1; simp at hj1)
              have cs := hcell j hj1
              rw [hya] at c0
              have hsb := (unhide HYO).2.2.2.2 y.L[j] (List.getElem_mem hj1)
              have hss := strSize y.L[j]
              rw [← hss] at hsb
              generalize hse : (⟨y.L[j].toArray⟩ : ByteArray) = s at *
              clear hcell hse hss ct hya
              have hN4 : NL < 400 := by have h1 := unhide HN; have h2 := unhide HNL; omega
              have hX1 : xs.length < 100 := by have := unhide HX; omega
              by_cases hbig : 500 < s.size
              · have hbi : (500 : Int) < (s.size : Int) := by omega
                clear hN4 hX1
                go_wp2
                go_roundw
                case rel => exact ⟨j + 1, base, xs, dd, vv, _, by omega, by go_num, rfl, rfl, HBS, hide (by have := unhide HN; omega), hide (by have := unhide HX; omega)⟩
                case measure => simp [intOf]; omega
              · have hbi : ¬ ((500 : Int) < (s.size : Int)) := by omega
                by_cases hemp : s = ⟨#[]⟩
                · subst hemp
                  have SY := hide (unhide HBS).sync
                  clear hN4 hX1 HBS
                  go_wp2_with fail
                  refine (unhide SY).mono ?_
                  rintro r w10 (⟨rfl, d10, b10⟩ | ⟨rfl, d10, b10⟩)
                  · have HB10 := hide b10
                    clear b10 SY
                    go_wp2
                    go_roundw
                    case rel => exact ⟨j + 1, base ++ xs, [], d10, vv, _, by omega, by go_num, by rw [unhide HNL], rfl, HB10, hide (by rw [List.append_nil]; have := unhide HN; omega), hide (by simp)⟩
                    case measure => simp [intOf]; omega
                  · have HB10 := hide b10
                    clear b10 SY
                    go_wp2
                    go_meet
                    exact ⟨base, xs, d10, vv, _, rfl, rfl, HB10, hide (by have := unhide HN; omega)⟩
                · have hne1 : (s.toList == []) = false := strNe4 hemp
                  have hne2 : ¬ (s.toList = []) := by simpa using hne1
                  have AP := hide ((unhide HBS).append (unhide HT) s (by omega) (by rw [unhide HNL]; exact hN4) hX1)
                  clear HBS hX1
                  go_wp2_with fail
                  refine (unhide AP).mono ?_
                  rintro r w10 (⟨rfl, v10, d10, r10, n10⟩ | ⟨rfl, d10, b10⟩)
                  · obtain ⟨TA, hTA⟩ : ∃ TA, textC (base ++ xs) = TA := ⟨_, rfl⟩
                    have hown : w10.ownsRow 0 9 1 (.slice (some ⟨gm, 0, none⟩) NL cm) NL TA := by
                      have h1 := r10
                      unfold Txs OwnsS at h1
                      rw [unhide HNL, hTA] at h1
                      exact h1
                    rw [unhide HNL, hTA] at n10
                    have HN10 := hide n10
                    have HTA := hide hTA
                    clear r10 n10 AP hTA
                    go_wp2_with (at_builtin; refine wpList_append_lies _ rfl _ _ 26 rfl 0 9 i0 (.string ⟨#[]⟩) 1 16 Tryd.underlying26 hi hz0 hz1 hz2 rfl (by decide) (.slice (some ⟨gm, 0, none⟩) NL cm) NL TA rfl (hown.alloc _) ⟨w10.heap.size, 0, none⟩ 1 1 [.string s] rfl rfl (one_new _ _ _) (by intro u hu; simp at hu; subst hu; rfl) (by omega) (by unfold maxLen; omega) (by omega) (by simp) _ rfl ?_; intro g3 cap3 w11 hown' hgrow hat3 hlt3; have HAT := hide hat3; clear hat3)
                    have HB10 := hide (unhide HN10 g3 cap3 w11 hown' hgrow (unhide HAT))
                    clear hown hown' hgrow HAT HN10
                    go_wp2
                    go_roundw
                    case rel => exact ⟨j + 1, base, xs ++ [s.data.toList], d10, v10, _, by omega, by go_num, rfl, rfl, HB10, hide (by have := unhide HN; simp only [List.length_append, List.length_singleton] at *; omega), hide (by have := unhide HX; simp; omega)⟩
                    case measure => simp [intOf]; omega
                  · have HB10 := hide b10
                    clear b10 AP
                    go_wp2
                    go_meet
                    exact ⟨base, xs, d10, vv, _, rfl, rfl, HB10, hide (by have := unhide HN; omega)⟩
            · rcases (by omega : ¬ ((j : Int) < (y.L.length : Int)) ∨ ((j : Int) < (y.L.length : Int) ∧ ¬ ((j : Int) < 20))) with hB1 | ⟨hB1, hB2⟩
              all_goals
                go_wp2
                go_meet
                exact ⟨base, xs, dd, vv, _, rfl, rfl, HBS, hide (by have := unhide HN; omega)⟩
        case rest =>
          clear HBS
          obtain ⟨base, xs, dd, vv, mm, rfl, rfl, HBS, HN⟩ := hcut
          obtain ⟨em, _⟩ | ⟨gm, cm, hms, _, hcm⟩ := (unhide HBS).row.shape
          · exact absurd em (unhide HBS).nn
          obtain ⟨NL, hNL⟩ : ∃ NL, (base ++ xs).length = NL := ⟨_, rfl⟩
          rw [hNL] at hms
          have HNL := hide hNL
          subst hms
          clear hNL
          have hkd := Kp.drew wc
          obtain ⟨_, _, c2, c3, _⟩ := unhide HC wc.drew ((unhide HBS).own.bel.trans hkd (by simp))
          have cA := And.intro c2 c3
          have CR : Hid (Calls Tryd.prog 14 #[.pointer (some ⟨p, 0, none⟩), .int .i64 y.keep, .int .i64 y.torn] wc.drew fun r w10 => r = .returned (.tuple #[]) ∧ OwnD w w10 p (dd.crash y.keep y.torn) ∧ Txs w10 (.slice (some ⟨gm, 0, none⟩) NL cm) (base ++ xs) ∧ w10.cell? ⟨b, off + k * 4 + 2, none⟩ = some (.int .i64 y.keep) ∧ w10.cell? ⟨b, off + k * 4 + 3, none⟩ = some (.int .i64 y.torn)) := hide ((((unhide HBS).kp hkd).crash y.keep y.torn (unhide HYO).2.2.1.2).mono fun r w10 ⟨h1, h2, h3⟩ => by
            obtain ⟨_, _, q2, q3, _⟩ := unhide HC w10 h2.bel
            exact ⟨h1, h2, h3, q2, q3⟩)
          have HBB := hide (unhide HBS).bg
          have HLOW := hide (unhide HBS).low
          clear HBS c2 c3 hkd
          go_wp2_with fail
          go_region_held3 (fun W => W.cell? ⟨b, off + k * 4 + 2, none⟩ = some (.int .i64 y.keep) ∧ W.cell? ⟨b, off + k * 4 + 3, none⟩ = some (.int .i64 y.torn)) (first | with_reducible exact cA | with_reducible exact cB)
            (first
              | (go_at_call 14; refine (unhide CR).mono ?_; rintro r w10 ⟨rfl, o10, r10, cB⟩; have HO := hide o10; have HRW := hide r10; clear o10 r10))
          have RO := hide (BgS.reopen (i := k) (unhide HBB) (unhide HO) (unhide HRW) (unhide HLOW) (unhide HT) (by have h1 := (unhide HST).few; have h2 := unhide HN; omega))
          clear CR HBB HLOW HO HRW cA
          go_wp2_with fail
          refine (unhide RO).mono ?_
          rintro r w11 ⟨t2, v2, d3, m, rfl, hm1, hm2, tp2, r11, hd11⟩
          have hTl : ((base ++ xs).take m).length = m := by rw [List.length_take]; omega
          have hsl : ∀ W, (Instr.slice 26 (.slice (some ⟨gm, 0, none⟩) NL cm) none (some (.int .i64 (m : Int))) none).run Tryd.prog W = .ok (.slice (some ⟨gm, 0, none⟩) m cm) W := fun W => runPre r11 m hm2 W
          have LN := len_any t2 p ⟨#[108, 111, 103]⟩ v2 _ w11 tp2
          rw [hTl] at LN
          have LN := hide LN
          have HD11 : Hid (HdS w w11 p d3 (.slice (some ⟨gm, 0, none⟩) m cm) ((base ++ xs).take m) (k + 1)) := hide hd11
          have HTP := hide tp2
          have hmN : m ≤ NL := by rw [← unhide HNL]; exact hm2
          have hmS : (m : Int) ≤ 1000 := by have h1 := unhide HN; have h2 := unhide HNL; omega
          have hmb : ¬ ((m : Int) < (base.length : Int)) := by omega
          have hmn : ¬ ((NL : Int) < (m : Int)) := by omega
          have HTL := hide hTl
          clear hd11 tp2 r11 RO hTl hm1 hm2
          generalize (base ++ xs).take m = TM at *
          go_wp2_with fail
          refine (unhide LN).mono ?_
          rintro r w12 ⟨rfl, rfl⟩
          go_wp2_with fail
          refine (unhide LN).mono ?_
          rintro r w13 ⟨rfl, rfl⟩
          go_wp2_with fail
          refine (unhide LN).mono ?_
          rintro r w14 ⟨rfl, rfl⟩
          clear LN
          go_wp2
          go_loopw [161] (fun i wr => ∃ q : Nat, q ≤ m ∧ i = .int .i64 (q : Int) ∧ Hid (HdS w wr p d3 (.slice (some ⟨gm, 0, none⟩) m cm) TM (k + 1)) ∧ Hid (TpAt wr t2 p ⟨#[108, 111, 103]⟩ v2 TM)) (fun i _ => m - (intOf i).toNat)
          case atStart => exact ⟨0, Nat.zero_le _, rfl, HD11, HTP⟩
          case round =>
            clear HD11 HTP
            obtain ⟨q, hq, rfl, HD, HTP⟩ := hrel
            by_cases hq2 : q < m
            · have hqi : (q : Int) < (m : Int) := by omega
              have hqS : (q : Int) ≤ 1000 := by omega
              have hqT : q < TM.length := by rw [unhide HTL]; exact hq2
              have hr1 := (unhide HD).row
              have cX : wr.cell? ⟨gm, q, none⟩ = some (.string ⟨TM[q].toArray⟩) := OwnsS.cell (cap := cm) (by rw [unhide HTL]; exact hr1) q hqT
              have RD := hide (tread_ok t2 p ⟨#[108, 111, 103]⟩ v2 TM q hqT _ (unhide HTP))
              generalize (⟨TM[q].toArray⟩ : ByteArray) = S at *
              clear hr1
              go_wp2_with fail
              refine (unhide RD).mono ?_
              rintro r w15 ⟨rfl, k15⟩
              have HD := hide ((unhide HD).kp k15)
              have HTP := hide ((unhide HTP).kp k15 (by simp) (by simp))
              clear k15 RD
              go_wp2
              go_roundw
              case rel => exact ⟨q + 1, by omega, by go_num, HD, HTP⟩
              case measure => simp [intOf]; omega
            · have hqi : ¬ ((q : Int) < (m : Int)) := by omega
              go_wp2
              go_roundw
              case rel => exact ⟨k + 1, d3, _, TM, by omega, by omega, by go_num, rfl, HD⟩
              case measure => simp [intOf]; omega
    · have HK := hide (unhide HR).own.bel
      clear HR
      rcases (by omega : ¬ ((k : Int) < (l.length : Int)) ∨ ((k : Int) < (l.length : Int) ∧ ¬ ((k : Int) < 12))) with hA1 | ⟨hA1, hA2⟩
      all_goals
        go_wp2
        go_ret
        exact ⟨rfl, unhide HK⟩
end Go.Proofs.YtllkkflolijpaaaDoor
