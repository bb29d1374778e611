/-
  SourcePlays: the walk.
-/
import Derived.Test.YtnikkjbjidhhlaaSpA
import Derived.Test.YtnikkjbjidhhlaaAc5
import Derived.Test.YtnikkjbjidhhlaaKpI
import Derived.Test.YtnikkjbjidhhlaaSpI
import Derived.Test.YtnikkjbjidhhlaaSoM
import Derived.Deep.DeepCutAuto
namespace Go.Proofs.Ytnikkjbjidhhlaa
open Go.RowKit

theorem Ao.cells {a : Ao} {W : World} {B : Nat} (h : CBox B a.c 47 W) : W.cell? ⟨B, 0, none⟩ = some (.int .i64 a.kind) ∧ W.cell? ⟨B, 1, none⟩ = some (.string a.e.k) ∧ W.cell? ⟨B, 2, none⟩ = some (.string a.e.t) ∧ W.cell? ⟨B, 3, none⟩ = some (.int .i64 a.e.n0) ∧ W.cell? ⟨B, 4, none⟩ = some (.int .i64 a.e.n1) ∧ W.cell? ⟨B, 5, none⟩ = some (.int .i64 a.e.n2) ∧ W.cell? ⟨B, 6, none⟩ = some (.int .i64 a.e.n3) ∧ W.cell? ⟨B, 7, none⟩ = some (.string a.e.x) ∧ W.cell? ⟨B, 8, none⟩ = some (.int .i64 a.part) ∧ W.cell? ⟨B, 9, none⟩ = some (.int .i64 a.fro) ∧ W.cell? ⟨B, 10, none⟩ = some (.int .i64 a.n) ∧ W.cell? ⟨B, 11, none⟩ = some (.slice a.oa a.os.length a.oc) := ⟨h.cell rfl, h.cell rfl, h.cell rfl, h.cell rfl, h.cell rfl, h.cell rfl, h.cell rfl, h.cell rfl, h.cell rfl, h.cell rfl, h.cell rfl, h.cell rfl⟩
theorem Ao.load {l : List Ao} {w : World} {b off j : Nat} (hj : j < l.length) (hc : ∀ i (h : i < l.length), ∀ (t : Nat) (u : Value), (l[i]).c[t]? = some u → w.cell? ⟨b, off + i * 12 + t, none⟩ = some u) (W : World) (hk : Kp [] w W) (a : Ao) (ha : a = l[j]) : W.cell? ⟨b, off + j * 12, none⟩ = some (.int .i64 a.kind) ∧ W.cell? ⟨b, off + j * 12 + 1, none⟩ = some (.string a.e.k) ∧ W.cell? ⟨b, off + j * 12 + 2, none⟩ = some (.string a.e.t) ∧ W.cell? ⟨b, off + j * 12 + 3, none⟩ = some (.int .i64 a.e.n0) ∧ W.cell? ⟨b, off + j * 12 + 4, none⟩ = some (.int .i64 a.e.n1) ∧ W.cell? ⟨b, off + j * 12 + 5, none⟩ = some (.int .i64 a.e.n2) ∧ W.cell? ⟨b, off + j * 12 + 6, none⟩ = some (.int .i64 a.e.n3) ∧ W.cell? ⟨b, off + j * 12 + 7, none⟩ = some (.string a.e.x) ∧ W.cell? ⟨b, off + j * 12 + 8, none⟩ = some (.int .i64 a.part) ∧ W.cell? ⟨b, off + j * 12 + 9, none⟩ = some (.int .i64 a.fro) ∧ W.cell? ⟨b, off + j * 12 + 10, none⟩ = some (.int .i64 a.n) ∧ W.cell? ⟨b, off + j * 12 + 11, none⟩ = some (.slice a.oa a.os.length a.oc) := by
  subst ha
  exact ⟨hk.cell (hc j hj 0 _ rfl) (by simp), hk.cell (hc j hj 1 _ rfl) (by simp), hk.cell (hc j hj 2 _ rfl) (by simp), hk.cell (hc j hj 3 _ rfl) (by simp), hk.cell (hc j hj 4 _ rfl) (by simp), hk.cell (hc j hj 5 _ rfl) (by simp), hk.cell (hc j hj 6 _ rfl) (by simp), hk.cell (hc j hj 7 _ rfl) (by simp), hk.cell (hc j hj 8 _ rfl) (by simp), hk.cell (hc j hj 9 _ rfl) (by simp), hk.cell (hc j hj 10 _ rfl) (by simp), hk.cell (hc j hj 11 _ rfl) (by simp)⟩
set_option maxHeartbeats 8000000 in
set_option maxRecDepth 100000 in
theorem plays_ok (RP : RefPut) (n : Nat) (h1 : 1 ≤ n) (h2 : n ≤ 16) (ad : Option Addr) (cap : Nat) (l : List Ao) (w : World) (hA : AosAt w ad l) (hok : ∀ a ∈ l, a.lies w) (hbig : ∀ a ∈ l, a.os.length + 1 ≤ 17592186044416) :
    Calls Try.prog 5 #[.int .i64 (n : Int), .slice ad l.length cap] w fun e w' => e = .returned (.bool true) ∧ Below w.heap.size w w' := by
  have N1 := hide (fun W => snew_ok n h1 h2 W)
  have N2 := hide (fun W => refSnew_ok n h1 h2 W)
  have WK := hide soWorks_any
  have HA := hide hA
  have HOK := hide hok
  have HBIG := hide hbig
  have HRP := hide RP
  clear hA hok hbig RP
  go_enter Try.func5, Try.ntmps5
  go_wp2_with fail
  refine (unhide N1 w).mono ?_
  rintro r w1 ⟨rfl, hs1, k1⟩
  have HS1 := hide hs1
  have K1 := hide k1
  clear hs1 k1
  go_wp2_with fail
  refine (unhide N2 w1).mono ?_
  rintro r w2 ⟨rfl, hr2, k2⟩
  have P0 := hide (PlT.start n w w1 w2 (unhide K1) (unhide HS1) k2 hr2)
  clear hr2 k2 HS1 K1 N1 N2
  have hl0 := soNew_len n
  generalize w.heap.size + 1 = g1 at *
  generalize w1.heap.size + 1 = g2 at *
  go_wp2
  go_loopw [9] (fun i wr => ∃ (j : Nat) (ps : List (List Ev)), j ≤ l.length ∧ i = .int .i64 (j : Int) ∧ ps.length = n ∧ Hid (PlT w wr g1 g2 ps ps)) (fun i _ => l.length - (intOf i).toNat)
  case atStart => exact ⟨0, soNew n, Nat.zero_le _, rfl, hl0, P0⟩
  case round =>
    obtain ⟨j, ps, hj, rfl, hpn, PL⟩ := hrel
    clear P0 hl0
    by_cases hlt : j < l.length
    · by_cases h200 : j < 200
      · obtain ⟨b, off, rfl, _, hc⟩ := unhide HA (fun e => by rw [e] at hlt; simp at hlt)
        have LD := Ao.load hlt hc wr (unhide PL).kp l[j] rfl
        have hli := unhide HOK l[j] (List.getElem_mem _)
        have hbg := unhide HBIG l[j] (List.getElem_mem _)
        have hji : (j : Int) < (l.length : Int) := by omega
        have hj2 : (j : Int) < 200 := by omega
        clear hc HA HOK HBIG
        generalize l[j] = a at *
        have bx := CBox.new wr a.c 47
        have kx := Kp.alloc wr (.cells a.c 47)
        have X := Ao.cells bx
        have PX := hide ((unhide PL).on kx)
        have AM := hide (fun W => soAmong_any a.kind 4 W (by decide) (by decide))
        have HLI := hide hli
        have BX := hide bx
        clear hli bx kx PL
        unfold Ao.c at X PX BX
        go_wp2_with fail
        refine (unhide AM _).mono ?_
        rintro r w3 ⟨rfl, rfl⟩
        have hk4 : a.kind % 4 = 0 ∨ a.kind % 4 = 1 ∨ a.kind % 4 = 2 ∨ a.kind % 4 = 3 := by omega
        generalize a.kind % 4 = kk at *
        generalize hW3 : wr.alloc (.cells #[.int .i64 a.kind, .string a.e.k, .string a.e.t, .int .i64 a.e.n0, .int .i64 a.e.n1, .int .i64 a.e.n2, .int .i64 a.e.n3, .string a.e.x, .int .i64 a.part, .int .i64 a.fro, .int .i64 a.n, .slice a.oa a.os.length a.oc] 47) = W3 at *
        clear hW3 LD AM
        have hpn8 : ps.length ≤ 16 := by omega
        rcases hk4 with rfl | rfl | rfl | rfl
        · have P1 := (unhide PX).put1 a.e (unhide HLI).ev
          unfold Ev.c at P1
          have P1 := hide P1
          go_wp2_with fail
          refine (unhide P1).mono ?_
          rintro r w4 ⟨rfl, p4, s4⟩
          have b4 := s4 _ _ (unhide BX)
          have X4 := Ao.cells b4
          have P2 := p4.put2 (unhide HRP) a.e (unhide HLI).ev
          unfold Ev.c at P2
          have P2 := hide P2
          clear s4 b4 p4 P1 PX BX X
          go_wp2_with fail
          refine (unhide P2).mono ?_
          rintro r w5 ⟨rfl, p5, _⟩
          have PT := hide p5
          have hpt : (puS ps a.e).length = n := by rw [puS_len]; exact hpn
          clear p5 P2 X4
          generalize puS ps a.e = PS2 at *
          generalize puA ps a.e = A1 at *
          generalize puO ps a.e = A2 at *
          generalize puE ps a.e = A3 at *
          obtain ⟨⟨qa, va, sa⟩, qb, vb, sb⟩ := (unhide PT).srcs
          have EN := hide (ends_any g1 qa va PS2 w5 sa)
          have RN := hide (fun W (hk : Kp [] w5 W) => refEnds_any g2 qb vb PS2 W (sb.kp hk (by simp)))
          have hll : (lensI PS2).length = n := by rw [lensI_len, hpt]
          rw [hpt] at EN
          have HLL := hide hll
          have HPT := hide hpt
          clear sa sb hll
          (try clear hpt)
          (try clear hpn)
          (try clear hpn8)
          go_wp2_with fail
          refine (unhide EN).mono ?_
          rintro r w20 ⟨rfl, b20, k20⟩
          have RQ := hide (unhide RN w20 k20)
          have B20 := hide b20
          have K20 := hide k20
          clear b20 k20 EN RN
          go_wp2_with fail
          refine (unhide RQ).mono ?_
          rintro r w21 ⟨v21, rfl, o21, k21⟩
          obtain ⟨a21, c21, rfl, i21⟩ := ends_own o21
          have b21 := (unhide B20).kp k21 (by simp)
          have SM := hide (sameInts_any (some ⟨w5.heap.size, 0, none⟩) a21 n c21 (lensI PS2) (lensI PS2) w21 (by rw [unhide HLL]; omega) (by rw [unhide HLL]; omega) (ends_ints b21) i21)
          rw [decide_eq_true rfl, unhide HLL] at SM
          rw [unhide HLL]
          have B21 := hide b21
          have K21 := hide ((unhide K20).trans k21 (by simp))
          clear o21 i21 k21 b21 RQ B20 K20
          go_wp2_with fail
          refine (unhide SM).mono ?_
          rintro r w22 ⟨rfl, nd, rfl⟩
          have b22 : CBox w5.heap.size (intC (PS2.map List.length)).toArray 3 (w21.drewN nd) := (unhide B21).kp (Kp.drewQ _ _) (by simp)
          have SPI := hide (spoilInts_any w5.heap.size n _ (-7) (w21.drewN nd) b22 (by simp [intC]; exact unhide HPT) (by omega))
          have K22 := hide ((unhide K21).trans (Kp.drewQ w21 nd) (by simp))
          clear b22 SM B21
          go_wp2_with fail
          refine (unhide SPI).mono ?_
          rintro r w23 ⟨rfl, k23⟩
          have PZ := hide ((unhide PT).spoil (unhide K22) k23 (by simp))
          clear k23 SPI K22
          go_wp2
          go_roundw
          case rel => exact ⟨j + 1, PS2, by omega, by go_num, unhide HPT, PZ⟩
          case measure => simp [intOf]; omega
        · obtain ⟨⟨qa, va, sa⟩, qb, vb, sb⟩ := (unhide PX).srcs
          have R1 := hide (read_any g1 qa va ps a.part a.fro a.n W3 sa (unhide HLI).p (unhide HLI).f)
          have R2 := hide (fun W (hk : Kp [] W3 W) => refRead_any g2 qb vb ps a.part a.fro a.n W (sb.kp hk (by simp)))
          have hle := rdL_le (unhide PX).lim a.part a.fro a.n
          clear sa sb
          generalize rdL ps a.part a.fro a.n = LL at *
          generalize rdE ps a.part a.fro a.n = EE at *
          go_wp2_with fail
          refine (unhide R1).mono ?_
          rintro r w4 ⟨v4, rfl, n4, k4⟩
          obtain ⟨ad4, cp4, rfl, e4, nw4⟩ := n4.spoilt
          have R3 := hide (unhide R2 w4 k4)
          have X4 := Ao.cells ((unhide BX).kp k4 (by simp))
          have K4 := hide k4
          have E4 := hide e4
          have NW4 := hide nw4
          clear n4 k4 R1 R2 X e4 nw4
          go_wp2_with fail
          refine (unhide R3).mono ?_
          rintro r w5 ⟨v5, rfl, n5, k5⟩
          obtain ⟨ad5, cp5, rfl, e5, _⟩ := n5.spoilt
          have SE := hide (sameEvs_any ad4 ad5 cp4 cp5 LL w5 (by omega) ((unhide E4).kp k5 (by simp)) e5)
          have K5 := hide ((unhide K4).trans k5 (by simp))
          have NW5 := hide (fun (hne : LL ≠ []) => by
            obtain ⟨gx, cs, h1, h2, h3, h4⟩ := unhide NW4 hne
            exact (⟨gx, cs, h1, h2, h3.kp k5 (by simp), h4⟩ : ∃ (g : Nat) (cs : Array Value), ad4 = some ⟨g, 0, none⟩ ∧ W3.heap.size ≤ g ∧ CBox g cs 45 w5 ∧ LL.length * 7 ≤ cs.size))
          clear n5 k5 e5 R3 X4 NW4 E4 K4
          go_wp2_with fail
          refine (unhide SE).mono ?_
          rintro r w6 ⟨rfl, k6⟩
          have KE := hide ((unhide K5).trans k6 (by simp))
          have NW := hide (fun (hne : LL ≠ []) => by
            obtain ⟨gx, cs, h1, h2, h3, h4⟩ := unhide NW5 hne
            exact (⟨gx, cs, h1, h2, h3.kp k6 (by simp), h4⟩ : ∃ (g : Nat) (cs : Array Value), ad4 = some ⟨g, 0, none⟩ ∧ W3.heap.size ≤ g ∧ CBox g cs 45 w6 ∧ LL.length * 7 ≤ cs.size))
          clear k6 SE K5 NW5
          generalize w6 = WE at *
          by_cases hL0 : LL = []
          · subst hL0
            go_wp2
            go_loopw [21] (fun i wr' => i = .int .i64 0 ∧ wr' = WE) (fun _ _ => 0)
            case atStart => exact ⟨rfl, rfl⟩
            case round =>
              obtain ⟨rfl, rfl⟩ := hrel
              have PT := hide ((unhide PX).on (unhide KE))
              have hpt := hpn
              clear PX KE NW
              obtain ⟨⟨qa, va, sa⟩, qb, vb, sb⟩ := (unhide PT).srcs
              have EN := hide (ends_any g1 qa va ps wr sa)
              have RN := hide (fun W (hk : Kp [] wr W) => refEnds_any g2 qb vb ps W (sb.kp hk (by simp)))
              have hll : (lensI ps).length = n := by rw [lensI_len, hpt]
              rw [hpt] at EN
              have HLL := hide hll
              have HPT := hide hpt
              clear sa sb hll
              (try clear hpt)
              (try clear hpn)
              (try clear hpn8)
              go_wp2_with fail
              refine (unhide EN).mono ?_
              rintro r w20 ⟨rfl, b20, k20⟩
              have RQ := hide (unhide RN w20 k20)
              have B20 := hide b20
              have K20 := hide k20
              clear b20 k20 EN RN
              go_wp2_with fail
              refine (unhide RQ).mono ?_
              rintro r w21 ⟨v21, rfl, o21, k21⟩
              obtain ⟨a21, c21, rfl, i21⟩ := ends_own o21
              have b21 := (unhide B20).kp k21 (by simp)
              have SM := hide (sameInts_any (some ⟨wr.heap.size, 0, none⟩) a21 n c21 (lensI ps) (lensI ps) w21 (by rw [unhide HLL]; omega) (by rw [unhide HLL]; omega) (ends_ints b21) i21)
              rw [decide_eq_true rfl, unhide HLL] at SM
              rw [unhide HLL]
              have B21 := hide b21
              have K21 := hide ((unhide K20).trans k21 (by simp))
              clear o21 i21 k21 b21 RQ B20 K20
              go_wp2_with fail
              refine (unhide SM).mono ?_
              rintro r w22 ⟨rfl, nd, rfl⟩
              have b22 : CBox wr.heap.size (intC (ps.map List.length)).toArray 3 (w21.drewN nd) := (unhide B21).kp (Kp.drewQ _ _) (by simp)
              have SPI := hide (spoilInts_any wr.heap.size n _ (-7) (w21.drewN nd) b22 (by simp [intC]; exact unhide HPT) (by omega))
              have K22 := hide ((unhide K21).trans (Kp.drewQ w21 nd) (by simp))
              clear b22 SM B21
              go_wp2_with fail
              refine (unhide SPI).mono ?_
              rintro r w23 ⟨rfl, k23⟩
              have PZ := hide ((unhide PT).spoil (unhide K22) k23 (by simp))
              clear k23 SPI K22
              go_wp2
              go_roundw
              case rel => exact ⟨j + 1, ps, by omega, by go_num, unhide HPT, PZ⟩
              case measure => simp [intOf]; omega
          · obtain ⟨gx, cs, rfl, hgx, bx0, hcs⟩ := unhide NW hL0
            have BX0 := hide bx0
            clear bx0 NW
            go_wp2
            go_loopw [21] (fun i wr' => ∃ (t : Nat) (cs : Array Value), t ≤ LL.length ∧ i = .int .i64 (t : Int) ∧ Hid (CBox gx cs 45 wr') ∧ LL.length * 7 ≤ cs.size ∧ Kp [gx] WE wr') (fun i _ => LL.length - (intOf i).toNat)
            case atStart => exact ⟨0, cs, Nat.zero_le _, rfl, BX0, hcs, (Kp.refl _ _)⟩
            case round =>
              obtain ⟨t, cs, ht, rfl, BT, hct, kt⟩ := hrel
              by_cases htl : t < LL.length
              · have hti : (t : Int) < (LL.length : Int) := by omega
                have hb := unhide BT
                have q0 := hb.cell (i := t * 7) (v := cs[t * 7]'(by omega)) (Array.getElem?_eq_getElem _)
                have q1 := hb.cell (i := t * 7 + 1) (v := cs[t * 7 + 1]'(by omega)) (Array.getElem?_eq_getElem _)
                have q2 := hb.cell (i := t * 7 + 2) (v := cs[t * 7 + 2]'(by omega)) (Array.getElem?_eq_getElem _)
                have q3 := hb.cell (i := t * 7 + 3) (v := cs[t * 7 + 3]'(by omega)) (Array.getElem?_eq_getElem _)
                have q4 := hb.cell (i := t * 7 + 4) (v := cs[t * 7 + 4]'(by omega)) (Array.getElem?_eq_getElem _)
                have q5 := hb.cell (i := t * 7 + 5) (v := cs[t * 7 + 5]'(by omega)) (Array.getElem?_eq_getElem _)
                have q6 := hb.cell (i := t * 7 + 6) (v := cs[t * 7 + 6]'(by omega)) (Array.getElem?_eq_getElem _)
                have f0 := hb.froz (t * 7)
                have f1 := hb.froz (t * 7 + 1)
                have f2 := hb.froz (t * 7 + 2)
                have f3 := hb.froz (t * 7 + 3)
                have f4 := hb.froz (t * 7 + 4)
                have f5 := hb.froz (t * 7 + 5)
                have f6 := hb.froz (t * 7 + 6)
                have KT := hide kt
                clear hb kt
                go_wp2
                go_roundw
                case rel =>
                  refine ⟨t + 1, _, by omega, by go_num, hide (((((((((unhide BT).set _ _).set _ _).set _ _).set _ _).set _ _).set _ _).set _ _)), by simpa using hct, ?_⟩
                  exact (((((((unhide KT).trans (Kp.set _ _ _ _) (by simp)).trans (Kp.set _ _ _ _) (by simp)).trans (Kp.set _ _ _ _) (by simp)).trans (Kp.set _ _ _ _) (by simp)).trans (Kp.set _ _ _ _) (by simp)).trans (Kp.set _ _ _ _) (by simp)).trans (Kp.set _ _ _ _) (by simp)
                case measure => simp [intOf]; omega
              · have PT := hide ((unhide PX).spoil (unhide KE) kt (by simpa using hgx))
                have hpt := hpn
                clear PX KE kt BT BX0
                obtain ⟨⟨qa, va, sa⟩, qb, vb, sb⟩ := (unhide PT).srcs
                have EN := hide (ends_any g1 qa va ps wr sa)
                have RN := hide (fun W (hk : Kp [] wr W) => refEnds_any g2 qb vb ps W (sb.kp hk (by simp)))
                have hll : (lensI ps).length = n := by rw [lensI_len, hpt]
                rw [hpt] at EN
                have HLL := hide hll
                have HPT := hide hpt
                clear sa sb hll
                (try clear hpt)
                (try clear hpn)
                (try clear hpn8)
                go_wp2_with fail
                refine (unhide EN).mono ?_
                rintro r w20 ⟨rfl, b20, k20⟩
                have RQ := hide (unhide RN w20 k20)
                have B20 := hide b20
                have K20 := hide k20
                clear b20 k20 EN RN
                go_wp2_with fail
                refine (unhide RQ).mono ?_
                rintro r w21 ⟨v21, rfl, o21, k21⟩
                obtain ⟨a21, c21, rfl, i21⟩ := ends_own o21
                have b21 := (unhide B20).kp k21 (by simp)
                have SM := hide (sameInts_any (some ⟨wr.heap.size, 0, none⟩) a21 n c21 (lensI ps) (lensI ps) w21 (by rw [unhide HLL]; omega) (by rw [unhide HLL]; omega) (ends_ints b21) i21)
                rw [decide_eq_true rfl, unhide HLL] at SM
                rw [unhide HLL]
                have B21 := hide b21
                have K21 := hide ((unhide K20).trans k21 (by simp))
                clear o21 i21 k21 b21 RQ B20 K20
                go_wp2_with fail
                refine (unhide SM).mono ?_
                rintro r w22 ⟨rfl, nd, rfl⟩
                have b22 : CBox wr.heap.size (intC (ps.map List.length)).toArray 3 (w21.drewN nd) := (unhide B21).kp (Kp.drewQ _ _) (by simp)
                have SPI := hide (spoilInts_any wr.heap.size n _ (-7) (w21.drewN nd) b22 (by simp [intC]; exact unhide HPT) (by omega))
                have K22 := hide ((unhide K21).trans (Kp.drewQ w21 nd) (by simp))
                clear b22 SM B21
                go_wp2_with fail
                refine (unhide SPI).mono ?_
                rintro r w23 ⟨rfl, k23⟩
                have PZ := hide ((unhide PT).spoil (unhide K22) k23 (by simp))
                clear k23 SPI K22
                go_wp2
                go_roundw
                case rel => exact ⟨j + 1, ps, by omega, by go_num, unhide HPT, PZ⟩
                case measure => simp [intOf]; omega
        · obtain ⟨⟨qa, va, sa⟩, qb, vb, sb⟩ := (unhide PX).srcs
          have L1 := hide (lendInts_any a.oa a.oc a.os W3 hbg ((unhide HLI).off.below ((unhide PX).kp.below (Nat.le_refl _) (by simp)) (Nat.le_refl _)) (unhide HLI).nil)
          have hol := (unhide HLI).ol
          have hek := (unhide HLI).ev.1
          have B1 := hide (fun W (hk : Kp [] W3 W) (g : Nat) (c : Nat) (ho : IntsAt W (some ⟨g, 0, none⟩) a.os) => below_any g1 qa va ps a.e.k (some ⟨g, 0, none⟩) c a.os W (sa.kp hk (by simp)) hek ho hol)
          have B2 := hide (fun W (hk : Kp [] W3 W) => refBelow_any g2 qb vb ps a.e.k a.oa a.oc a.os W (sb.kp hk (by simp)) hek ((unhide HLI).off.below (((unhide PX).kp.trans hk (by simp)).below (Nat.le_refl _) (by simp)) (Nat.le_refl _)) hol)
          have OI := hide (fun W (hk : Kp [] W3 W) => (unhide HLI).off.below (((unhide PX).kp.trans hk (by simp)).below (Nat.le_refl _) (by simp)) (Nat.le_refl _))
          have hle := bwL_le (unhide PX).lim a.e.k a.os
          clear sa sb
          generalize bwL a.e.k ps a.os = LL at *
          generalize bwE ps a.os = EE at *
          go_wp2_with fail
          refine (unhide L1).mono ?_
          rintro r w4 ⟨go, co, rfl, hco, ir4, hgo, k4⟩
          have BQ := hide (unhide B1 w4 k4 go co ir4.lent)
          have X4 := Ao.cells ((unhide BX).kp k4 (by simp))
          have IR4 := hide ir4
          have K4 := hide k4
          have BX4 := hide ((unhide BX).kp k4 (by simp))
          clear ir4 k4 L1 X B1 BX
          go_wp2_with fail
          refine (unhide BQ).mono ?_
          rintro r w5 ⟨v5, rfl, n5, k5⟩
          obtain ⟨ad5, cp5, rfl, e5, nw5⟩ := n5.spoilt
          have k35 := (unhide K4).trans k5 (by simp)
          have BR := hide (unhide B2 w5 k35)
          have X5 := Ao.cells ((unhide BX4).kp k5 (by simp))
          have BX5 := hide ((unhide BX4).kp k5 (by simp))
          have IR5 := hide ((unhide IR4).kp k5 (by simp))
          have E5 := hide e5
          have hs4 := (unhide K4).size
          have NW5 := hide nw5
          have K5 := hide k35
          clear n5 e5 nw5 k5 k35 BQ X4 B2 IR4 K4 BX4
          go_wp2_with fail
          refine (unhide BR).mono ?_
          rintro r w6 ⟨v6, rfl, n6, k6⟩
          obtain ⟨ad6, cp6, rfl, e6, _⟩ := n6.spoilt
          have SE := hide (sameEvs_any ad5 ad6 cp5 cp6 LL w6 (by omega) ((unhide E5).kp k6 (by simp)) e6)
          have K6 := hide ((unhide K5).trans k6 (by simp))
          have BX6 := hide ((unhide BX5).kp k6 (by simp))
          have IR6 := hide ((unhide IR5).kp k6 (by simp))
          have NW6 := hide (fun (hne : LL ≠ []) => by
            obtain ⟨gx, cs, h1, h2, h3, h4⟩ := unhide NW5 hne
            exact (⟨gx, cs, h1, Nat.le_trans hs4 h2, h3.kp k6 (by simp), h4⟩ : ∃ (g : Nat) (cs : Array Value), ad5 = some ⟨g, 0, none⟩ ∧ W3.heap.size ≤ g ∧ CBox g cs 45 w6 ∧ LL.length * 7 ≤ cs.size))
          clear n6 e6 k6 BR X5 E5 NW5 K5 BX5 IR5 hs4
          go_wp2_with fail
          refine (unhide SE).mono ?_
          rintro r w7 ⟨rfl, k7⟩
          have k37 := (unhide K6).trans k7 (by simp)
          have X7 := Ao.cells ((unhide BX6).kp k7 (by simp))
          have KI := hide (keptInts_any a.oa a.oc a.os go co w7 (by omega) ((unhide IR6).kp k7 (by simp)) (unhide OI w7 k37))
          have K7 := hide k37
          have NW7 := hide (fun (hne : LL ≠ []) => by
            obtain ⟨gx, cs, h1, h2, h3, h4⟩ := unhide NW6 hne
            exact (⟨gx, cs, h1, h2, h3.kp k7 (by simp), h4⟩ : ∃ (g : Nat) (cs : Array Value), ad5 = some ⟨g, 0, none⟩ ∧ W3.heap.size ≤ g ∧ CBox g cs 45 w7 ∧ LL.length * 7 ≤ cs.size))
          clear k7 k37 SE K6 BX6 IR6 NW6 OI
          go_wp2_with fail
          refine (unhide KI).mono ?_
          rintro r w8 ⟨rfl, k8⟩
          have KE := hide ((unhide K7).trans k8 (by simp))
          have NW := hide (fun (hne : LL ≠ []) => by
            obtain ⟨gx, cs, h1, h2, h3, h4⟩ := unhide NW7 hne
            exact (⟨gx, cs, h1, h2, h3.kp k8 (by simp), h4⟩ : ∃ (g : Nat) (cs : Array Value), ad5 = some ⟨g, 0, none⟩ ∧ W3.heap.size ≤ g ∧ CBox g cs 45 w8 ∧ LL.length * 7 ≤ cs.size))
          clear k8 KI K7 NW7 X7
          generalize w8 = WE at *
          by_cases hL0 : LL = []
          · subst hL0
            go_wp2
            go_loopw [27] (fun i wr' => i = .int .i64 0 ∧ wr' = WE) (fun _ _ => 0)
            case atStart => exact ⟨rfl, rfl⟩
            case round =>
              obtain ⟨rfl, rfl⟩ := hrel
              have PT := hide ((unhide PX).on (unhide KE))
              have hpt := hpn
              clear PX KE NW
              obtain ⟨⟨qa, va, sa⟩, qb, vb, sb⟩ := (unhide PT).srcs
              have EN := hide (ends_any g1 qa va ps wr sa)
              have RN := hide (fun W (hk : Kp [] wr W) => refEnds_any g2 qb vb ps W (sb.kp hk (by simp)))
              have hll : (lensI ps).length = n := by rw [lensI_len, hpt]
              rw [hpt] at EN
              have HLL := hide hll
              have HPT := hide hpt
              clear sa sb hll
              (try clear hpt)
              (try clear hpn)
              (try clear hpn8)
              go_wp2_with fail
              refine (unhide EN).mono ?_
              rintro r w20 ⟨rfl, b20, k20⟩
              have RQ := hide (unhide RN w20 k20)
              have B20 := hide b20
              have K20 := hide k20
              clear b20 k20 EN RN
              go_wp2_with fail
              refine (unhide RQ).mono ?_
              rintro r w21 ⟨v21, rfl, o21, k21⟩
              obtain ⟨a21, c21, rfl, i21⟩ := ends_own o21
              have b21 := (unhide B20).kp k21 (by simp)
              have SM := hide (sameInts_any (some ⟨wr.heap.size, 0, none⟩) a21 n c21 (lensI ps) (lensI ps) w21 (by rw [unhide HLL]; omega) (by rw [unhide HLL]; omega) (ends_ints b21) i21)
              rw [decide_eq_true rfl, unhide HLL] at SM
              rw [unhide HLL]
              have B21 := hide b21
              have K21 := hide ((unhide K20).trans k21 (by simp))
              clear o21 i21 k21 b21 RQ B20 K20
              go_wp2_with fail
              refine (unhide SM).mono ?_
              rintro r w22 ⟨rfl, nd, rfl⟩
              have b22 : CBox wr.heap.size (intC (ps.map List.length)).toArray 3 (w21.drewN nd) := (unhide B21).kp (Kp.drewQ _ _) (by simp)
              have SPI := hide (spoilInts_any wr.heap.size n _ (-7) (w21.drewN nd) b22 (by simp [intC]; exact unhide HPT) (by omega))
              have K22 := hide ((unhide K21).trans (Kp.drewQ w21 nd) (by simp))
              clear b22 SM B21
              go_wp2_with fail
              refine (unhide SPI).mono ?_
              rintro r w23 ⟨rfl, k23⟩
              have PZ := hide ((unhide PT).spoil (unhide K22) k23 (by simp))
              clear k23 SPI K22
              go_wp2
              go_roundw
              case rel => exact ⟨j + 1, ps, by omega, by go_num, unhide HPT, PZ⟩
              case measure => simp [intOf]; omega
          · obtain ⟨gx, cs, rfl, hgx, bx0, hcs⟩ := unhide NW hL0
            have BX0 := hide bx0
            clear bx0 NW
            go_wp2
            go_loopw [27] (fun i wr' => ∃ (t : Nat) (cs : Array Value), t ≤ LL.length ∧ i = .int .i64 (t : Int) ∧ Hid (CBox gx cs 45 wr') ∧ LL.length * 7 ≤ cs.size ∧ Kp [gx] WE wr') (fun i _ => LL.length - (intOf i).toNat)
            case atStart => exact ⟨0, cs, Nat.zero_le _, rfl, BX0, hcs, (Kp.refl _ _)⟩
            case round =>
              obtain ⟨t, cs, ht, rfl, BT, hct, kt⟩ := hrel
              by_cases htl : t < LL.length
              · have hti : (t : Int) < (LL.length : Int) := by omega
                have hb := unhide BT
                have q0 := hb.cell (i := t * 7) (v := cs[t * 7]'(by omega)) (Array.getElem?_eq_getElem _)
                have q1 := hb.cell (i := t * 7 + 1) (v := cs[t * 7 + 1]'(by omega)) (Array.getElem?_eq_getElem _)
                have q2 := hb.cell (i := t * 7 + 2) (v := cs[t * 7 + 2]'(by omega)) (Array.getElem?_eq_getElem _)
                have q3 := hb.cell (i := t * 7 + 3) (v := cs[t * 7 + 3]'(by omega)) (Array.getElem?_eq_getElem _)
                have q4 := hb.cell (i := t * 7 + 4) (v := cs[t * 7 + 4]'(by omega)) (Array.getElem?_eq_getElem _)
                have q5 := hb.cell (i := t * 7 + 5) (v := cs[t * 7 + 5]'(by omega)) (Array.getElem?_eq_getElem _)
                have q6 := hb.cell (i := t * 7 + 6) (v := cs[t * 7 + 6]'(by omega)) (Array.getElem?_eq_getElem _)
                have f0 := hb.froz (t * 7)
                have f1 := hb.froz (t * 7 + 1)
                have f2 := hb.froz (t * 7 + 2)
                have f3 := hb.froz (t * 7 + 3)
                have f4 := hb.froz (t * 7 + 4)
                have f5 := hb.froz (t * 7 + 5)
                have f6 := hb.froz (t * 7 + 6)
                have KT := hide kt
                clear hb kt
                go_wp2
                go_roundw
                case rel =>
                  refine ⟨t + 1, _, by omega, by go_num, hide (((((((((unhide BT).set _ _).set _ _).set _ _).set _ _).set _ _).set _ _).set _ _)), by simpa using hct, ?_⟩
                  exact (((((((unhide KT).trans (Kp.set _ _ _ _) (by simp)).trans (Kp.set _ _ _ _) (by simp)).trans (Kp.set _ _ _ _) (by simp)).trans (Kp.set _ _ _ _) (by simp)).trans (Kp.set _ _ _ _) (by simp)).trans (Kp.set _ _ _ _) (by simp)).trans (Kp.set _ _ _ _) (by simp)
                case measure => simp [intOf]; omega
              · have PT := hide ((unhide PX).spoil (unhide KE) kt (by simpa using hgx))
                have hpt := hpn
                clear PX KE kt BT BX0
                obtain ⟨⟨qa, va, sa⟩, qb, vb, sb⟩ := (unhide PT).srcs
                have EN := hide (ends_any g1 qa va ps wr sa)
                have RN := hide (fun W (hk : Kp [] wr W) => refEnds_any g2 qb vb ps W (sb.kp hk (by simp)))
                have hll : (lensI ps).length = n := by rw [lensI_len, hpt]
                rw [hpt] at EN
                have HLL := hide hll
                have HPT := hide hpt
                clear sa sb hll
                (try clear hpt)
                (try clear hpn)
                (try clear hpn8)
                go_wp2_with fail
                refine (unhide EN).mono ?_
                rintro r w20 ⟨rfl, b20, k20⟩
                have RQ := hide (unhide RN w20 k20)
                have B20 := hide b20
                have K20 := hide k20
                clear b20 k20 EN RN
                go_wp2_with fail
                refine (unhide RQ).mono ?_
                rintro r w21 ⟨v21, rfl, o21, k21⟩
                obtain ⟨a21, c21, rfl, i21⟩ := ends_own o21
                have b21 := (unhide B20).kp k21 (by simp)
                have SM := hide (sameInts_any (some ⟨wr.heap.size, 0, none⟩) a21 n c21 (lensI ps) (lensI ps) w21 (by rw [unhide HLL]; omega) (by rw [unhide HLL]; omega) (ends_ints b21) i21)
                rw [decide_eq_true rfl, unhide HLL] at SM
                rw [unhide HLL]
                have B21 := hide b21
                have K21 := hide ((unhide K20).trans k21 (by simp))
                clear o21 i21 k21 b21 RQ B20 K20
                go_wp2_with fail
                refine (unhide SM).mono ?_
                rintro r w22 ⟨rfl, nd, rfl⟩
                have b22 : CBox wr.heap.size (intC (ps.map List.length)).toArray 3 (w21.drewN nd) := (unhide B21).kp (Kp.drewQ _ _) (by simp)
                have SPI := hide (spoilInts_any wr.heap.size n _ (-7) (w21.drewN nd) b22 (by simp [intC]; exact unhide HPT) (by omega))
                have K22 := hide ((unhide K21).trans (Kp.drewQ w21 nd) (by simp))
                clear b22 SM B21
                go_wp2_with fail
                refine (unhide SPI).mono ?_
                rintro r w23 ⟨rfl, k23⟩
                have PZ := hide ((unhide PT).spoil (unhide K22) k23 (by simp))
                clear k23 SPI K22
                go_wp2
                go_roundw
                case rel => exact ⟨j + 1, ps, by omega, by go_num, unhide HPT, PZ⟩
                case measure => simp [intOf]; omega
        · obtain ⟨⟨qa, va, sa⟩, _⟩ := (unhide PX).srcs
          have hek := (unhide HLI).ev.1
          have PA := hide (fun W (hk : Kp [] W3 W) => part_any g1 qa va ps a.e.k W (sa.kp hk (by simp)) hek)
          have PB := hide (fun W => refPart_any a.e.k n W h1 h2 hek)
          rw [hpn] at PA
          clear sa
          have cS : W3.drew.cell? ⟨wr.heap.size, 1, none⟩ = some (.string a.e.k) := X.2.1
          go_wp2
          go_region_held3 (fun W => W.cell? ⟨wr.heap.size, 1, none⟩ = some (.string a.e.k))
            (first | with_reducible exact cS2 | with_reducible exact cS)
            (first
              | (go_at_call 25; refine (unhide PA _ (Kp.drew W3)).mono ?_; rintro r w4 ⟨rfl, k4⟩; have cS2 : w4.cell? ⟨wr.heap.size, 1, none⟩ = some (.string a.e.k) := k4.cell cS (by simp))
              | (go_at_call 26; refine (unhide PB _).mono ?_; rintro r w5 ⟨rfl, rfl⟩))
          have PT := hide ((unhide PX).on ((Kp.drew W3).trans k4 (by simp)))
          have hpt := hpn
          clear PX PA PB cS cS2 k4 X
          obtain ⟨⟨qa, va, sa⟩, qb, vb, sb⟩ := (unhide PT).srcs
          have EN := hide (ends_any g1 qa va ps w5 sa)
          have RN := hide (fun W (hk : Kp [] w5 W) => refEnds_any g2 qb vb ps W (sb.kp hk (by simp)))
          have hll : (lensI ps).length = n := by rw [lensI_len, hpt]
          rw [hpt] at EN
          have HLL := hide hll
          have HPT := hide hpt
          clear sa sb hll
          (try clear hpt)
          (try clear hpn)
          (try clear hpn8)
          go_wp2_with fail
          refine (unhide EN).mono ?_
          rintro r w20 ⟨rfl, b20, k20⟩
          have RQ := hide (unhide RN w20 k20)
          have B20 := hide b20
          have K20 := hide k20
          clear b20 k20 EN RN
          go_wp2_with fail
          refine (unhide RQ).mono ?_
          rintro r w21 ⟨v21, rfl, o21, k21⟩
          obtain ⟨a21, c21, rfl, i21⟩ := ends_own o21
          have b21 := (unhide B20).kp k21 (by simp)
          have SM := hide (sameInts_any (some ⟨w5.heap.size, 0, none⟩) a21 n c21 (lensI ps) (lensI ps) w21 (by rw [unhide HLL]; omega) (by rw [unhide HLL]; omega) (ends_ints b21) i21)
          rw [decide_eq_true rfl, unhide HLL] at SM
          rw [unhide HLL]
          have B21 := hide b21
          have K21 := hide ((unhide K20).trans k21 (by simp))
          clear o21 i21 k21 b21 RQ B20 K20
          go_wp2_with fail
          refine (unhide SM).mono ?_
          rintro r w22 ⟨rfl, nd, rfl⟩
          have b22 : CBox w5.heap.size (intC (ps.map List.length)).toArray 3 (w21.drewN nd) := (unhide B21).kp (Kp.drewQ _ _) (by simp)
          have SPI := hide (spoilInts_any w5.heap.size n _ (-7) (w21.drewN nd) b22 (by simp [intC]; exact unhide HPT) (by omega))
          have K22 := hide ((unhide K21).trans (Kp.drewQ w21 nd) (by simp))
          clear b22 SM B21
          go_wp2_with fail
          refine (unhide SPI).mono ?_
          rintro r w23 ⟨rfl, k23⟩
          have PZ := hide ((unhide PT).spoil (unhide K22) k23 (by simp))
          clear k23 SPI K22
          go_wp2
          go_roundw
          case rel => exact ⟨j + 1, ps, by omega, by go_num, unhide HPT, PZ⟩
          case measure => simp [intOf]; omega
      · have hji : (j : Int) < (l.length : Int) := by omega
        have hj2 : ¬ (j : Int) < 200 := by omega
        have K9 := hide (unhide PL).kp
        clear HA HOK HBIG HRP PL
        go_wp2_with fail
        refine (unhide WK _).mono ?_
        rintro r w9 ⟨rfl, k9⟩
        have k' := (unhide K9).trans k9 (by simp)
        go_wp2
        go_ret
        exact ⟨rfl, k'.below (Nat.le_refl _) (by simp)⟩
    · have hji : ¬ (j : Int) < (l.length : Int) := by omega
      have K9 := hide (unhide PL).kp
      clear HA HOK HBIG HRP PL
      go_wp2_with fail
      refine (unhide WK _).mono ?_
      rintro r w9 ⟨rfl, k9⟩
      have k' := (unhide K9).trans k9 (by simp)
      go_wp2
      go_ret
      exact ⟨rfl, k'.below (Nat.le_refl _) (by simp)⟩
end Go.Proofs.Ytnikkjbjidhhlaa
