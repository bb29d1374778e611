/-
  MeterOrder: the walk.
-/
import Derived.Test.YtmeoiljjfmlmgaaMOr1
import Derived.Deep.RegionHeld3
import Derived.Lib.MinMax
namespace Go.Proofs.Ytmeoiljjfmlmgaa
open Go.RowKit

set_option maxHeartbeats 4000000 in
set_option maxRecDepth 100000 in
theorem order_walk (ad : Option Addr) (cap : Nat) (l : List Co) (w : World) (_hl : l.length ≤ 9223372036854775807) (hA : Cos w ad l) (_hok : ∀ y ∈ l, y.ok) :
    Calls Try.prog 4 #[.slice ad l.length cap] w fun e w' => e = .returned (.bool true) ∧ Below w.heap.size w w' := by
  have NW := hide newB
  have WK := hide meWorks_any
  have HA := hide hA
  obtain ⟨N, hN, hN1, hN2⟩ : ∃ N : Nat, min (l.length : Int) 200 = (N : Int) ∧ N ≤ l.length ∧ N ≤ 200 := ⟨min l.length 200, by omega, by omega, by omega⟩
  clear hA
  go_enter Try.func4, Try.ntmps4
  go_wp2_with fail
  refine (unhide WK w).mono ?_
  rintro _ w0 ⟨rfl, hk0⟩
  have HK0 := hide hk0
  clear hk0 WK
  go_wp2_with fail
  refine (unhide NW w0).mono ?_
  rintro _ w1 ⟨A, rfl, a1, a2, hm, hk⟩
  have HM1 := hide (And.intro hm (kp_tr (unhide HK0) hk))
  have a0 : w.heap.size ≤ A := Nat.le_trans (unhide HK0).size a1
  clear hm hk HK0 a1
  go_wp2_with fail
  refine (unhide NW w1).mono ?_
  rintro _ w2 ⟨B, rfl, b1, b2, hm, hk⟩
  have HM2 := hide (And.intro ((unhide HM1).1.kp hk (by simp)) (And.intro hm (kp_tr (unhide HM1).2 hk)))
  clear hm hk HM1
  go_wp2_with fail
  refine (unhide NW w2).mono ?_
  rintro _ w3 ⟨C, rfl, c1, c2, hm, hk⟩
  have HM3 := hide (And.intro ((unhide HM2).1.kp hk (by simp)) (And.intro ((unhide HM2).2.1.kp hk (by simp)) (And.intro hm (kp_tr (unhide HM2).2.2 hk))))
  clear hm hk HM2
  go_wp2_with fail
  refine (unhide NW w3).mono ?_
  rintro _ w4 ⟨D, rfl, d1, d2, hm, hk⟩
  have HS : Hid (OS w w4 A B C D l 0 c0 c0) := hide ⟨⟨((unhide HM3).1.kp hk (by simp)).ext (fun _ _ => rfl), (unhide HM3).2.1.kp hk (by simp), (unhide HM3).2.2.1.kp hk (by simp), hm, a0, by omega, by omega, by omega, kp_tr (unhide HM3).2.2.2 hk⟩, fun _ _ => rfl⟩
  clear hm hk HM3 NW a0 a2 b1 b2 c1 c2 d1 d2
  go_wp2_with fail
  go_loopw [28] (fun i wr => ∃ (j : Nat) (c d : Nat → Int), j ≤ N ∧ i = .int .i64 (j : Int) ∧ Hid (OS w wr A B C D l j c d)) (fun i _ => N - (intOf i).toNat)
  case atStart => exact ⟨0, _, _, Nat.zero_le _, rfl, HS⟩
  case round =>
    clear HS
    obtain ⟨j, c, d, hj, rfl, HP⟩ := hrel
    by_cases hjN : j < N
    · have hli : (j : Int) < (N : Int) := by omega
      have hlj : j < l.length := by omega
      have hll : (j : Int) < (l.length : Int) := by omega
      obtain ⟨b, off, rfl, hbl, x0, x1⟩ := ((unhide HA).kp (unhide HP).st.kp).at j hlj
      obtain ⟨K, hK, hK8⟩ : ∃ K : Nat, l[j].k % 8 = (K : Int) ∧ K < 8 := ⟨(l[j].k % 8).toNat, by omega, by omega⟩
      have AM := hide meAmong_any
      have AA := hide (fun W (h : OS w W A B C D l j c d) => h.addA hlj (by omega) K hK8 hK)
      have AC := hide (fun W (h : O4 w W A B C D (sm (l.take (j + 1))) c0 c d) => h.addC (unhide HP).sum hlj (by omega) K hK8 hK)
      have AD := hide (fun W (h : O4 w W A B C D (sm (l.take (j + 1))) c0 c d) => h.addD (unhide HP).sum hlj (by omega) K hK8 hK)
      clear HA hbl
      generalize hV : l[j].n % 1099511627776 = V at *
      generalize l[j].k = yk at *
      generalize l[j].n = yn at *
      have HPd : Hid (OS w wr.drew A B C D l j c d) := hide ⟨(unhide HP).st.next (Kp.drew _), (unhide HP).sum⟩
      have cS : wr.drew.cell? ⟨b, off + j * 2, none⟩ = some (.int .i64 yk) ∧ wr.drew.cell? ⟨b, off + j * 2 + 1, none⟩ = some (.int .i64 yn) := ⟨x0, x1⟩
      clear HP x0 x1
      go_wp2_with fail
      go_region_held3 (fun W => W.cell? ⟨b, off + j * 2, none⟩ = some (.int .i64 yk) ∧ W.cell? ⟨b, off + j * 2 + 1, none⟩ = some (.int .i64 yn))
        (first | with_reducible exact cS)
        (first
          | (go_at_call 8; refine (unhide AM _ _ _ (by decide) (by decide)).mono ?_; rintro _ w5 ⟨rfl, rfl⟩))
      clear hK hV cS AM
      go_wp2_with fail
      refine (unhide AA _ (unhide HPd)).mono ?_
      rintro _ w7 ⟨⟨V1, rfl⟩, h7⟩
      have H7 := hide h7
      clear h7 AA HPd
      have e3 : (j : Int).tmod 3 = ((j % 3 : Nat) : Int) := by rw [Int.tmod_eq_emod_of_nonneg (by omega)]; omega
      have z3 : j % 3 < 3 := Nat.mod_lt _ (by decide)
      generalize j % 3 = z at *
      by_cases h3 : z = 0
      · subst h3
        clear AC
        go_wp2_with fail
        refine (unhide AD _ (unhide H7)).mono ?_
        rintro _ w8 ⟨⟨V2, rfl⟩, c', d', h8⟩
        have H8 := hide h8
        clear h8 AD H7
        go_wp2
        go_roundw
        case rel => exact ⟨j + 1, _, _, by omega, by go_num, H8⟩
        case measure => simp [intOf]; omega
      · have h4 : ¬ ((z : Int) = 0) := by omega
        clear AD
        go_wp2_with fail
        refine (unhide AC _ (unhide H7)).mono ?_
        rintro _ w8 ⟨⟨V2, rfl⟩, c', d', h8⟩
        have H8 := hide h8
        clear h8 AC H7
        go_wp2
        go_roundw
        case rel => exact ⟨j + 1, _, _, by omega, by go_num, H8⟩
        case measure => simp [intOf]; omega
    · have hjN' : ¬ ((j : Int) < (N : Int)) := by omega
      have hjE : j = N := by omega
      have HT : Hid (OT w wr A B C D l N N c d) := hide (by
        have hp := unhide HP
        rw [hjE] at hp
        refine ⟨⟨hp.st.ma, hp.st.mb.ext fun i _ => ?_, hp.st.mc, hp.st.md, hp.st.h0, hp.st.h1, hp.st.h2, hp.st.h3, hp.st.kp⟩, hp.sum⟩
        rw [List.drop_eq_nil_of_le (by simp; omega)]
        rfl)
      clear HP hjE
      go_wp2_with fail
      go_loopw [16] (fun i wr2 => ∃ j : Nat, j ≤ N ∧ i = .int .i64 ((j : Int) - 1) ∧ Hid (OT w wr2 A B C D l N j c d)) (fun i _ => (intOf i + 1).toNat)
      case atStart => exact ⟨N, Nat.le_refl _, rfl, HT⟩
      case round =>
        clear HT
        obtain ⟨j, hj, rfl, HP⟩ := hrel
        match j, hj, HP with
        | 0, hj, HP =>
          have ej : ((0 : Nat) : Int) - 1 = -1 := by omega
          rw [ej]
          clear ej HA
          have HO : Hid (O4 w wr A B C D (sm (l.take N)) (sm (l.take N)) c d) := hide (by have hp := (unhide HP).st; rwa [List.drop_zero] at hp)
          have HSM := hide (unhide HP).sum
          clear HP
          generalize sm (l.take N) = a at *
          have AL := hide (all_any D d wr (unhide HO).md)
          unfold mC at AL
          go_wp2_with fail
          refine (unhide AL).mono ?_
          rintro _ w9 ⟨rfl, _, hk9⟩
          have HO9 := hide ((unhide HO).next hk9)
          clear hk9 AL HO
          have H0 : Hid (OQ w (w9.alloc (.cells (mC d) 26)).drew A B C D w9.heap.size a a c d) := hide ⟨((unhide HO9).next (Kp.alloc _ _)).next (Kp.drew _), CBox.new w9 _ _, Nat.ne_of_gt (unhide HO9).mc.lt⟩
          have HE := hide eq8
          have e1 := fun dd W => unhide HE dd (a 0) (a 1) (a 2) (a 3) (a 4) (a 5) (a 6) (a 7) W
          have e2 := fun dd W => unhide HE dd (d 0) (d 1) (d 2) (d 3) (d 4) (d 5) (d 6) (d 7) W
          have cS0 := (unhide H0).cells
          unfold mC at cS0
          clear HE HO9
          go_wp2_with fail
          generalize w9.heap.size = Q at *
          go_region_held3 (fun W => W.cell? ⟨Q, 0, none⟩ = some (.int .i64 (d 0)) ∧ W.cell? ⟨Q, 1, none⟩ = some (.int .i64 (d 1)) ∧ W.cell? ⟨Q, 2, none⟩ = some (.int .i64 (d 2)) ∧ W.cell? ⟨Q, 3, none⟩ = some (.int .i64 (d 3)) ∧ W.cell? ⟨Q, 4, none⟩ = some (.int .i64 (d 4)) ∧ W.cell? ⟨Q, 5, none⟩ = some (.int .i64 (d 5)) ∧ W.cell? ⟨Q, 6, none⟩ = some (.int .i64 (d 6)) ∧ W.cell? ⟨Q, 7, none⟩ = some (.int .i64 (d 7)))
            (first | with_reducible exact cS0 | with_reducible exact cS1 | with_reducible exact cS2 | with_reducible exact cS3 | with_reducible exact cS4 | with_reducible exact cS5 | with_reducible exact cS6)
            (first
              | (go_at_call 10; refine (OQ.allD (unhide H5)).mono ?_; rintro _ v6 ⟨rfl, h6⟩; have H6 := hide h6; have cS6 := (unhide H6).cells; clear h6)
              | (go_at_call 10; refine (OQ.allA (unhide H4)).mono ?_; rintro _ v5 ⟨rfl, h5⟩; have H5 := hide h5; have cS5 := (unhide H5).cells; clear h5)
              | (go_at_call 10; refine (OQ.allC (unhide H3)).mono ?_; rintro _ v4 ⟨rfl, h4⟩; have H4 := hide h4; have cS4 := (unhide H4).cells; clear h4)
              | (go_at_call 13; refine (OQ.join (unhide H2) (unhide HSM)).mono ?_; rintro _ v3 ⟨rfl, h3⟩; have H3 := hide h3; have cS3 := (unhide H3).cells; clear h3)
              | (go_at_call 10; refine (OQ.allB (unhide H1)).mono ?_; rintro _ v2 ⟨rfl, h2⟩; have H2 := hide h2; have cS2 := (unhide H2).cells; clear h2)
              | (go_at_call 10; refine (OQ.allA (unhide H0)).mono ?_; rintro _ v1 ⟨rfl, h1⟩; have H1 := hide h1; have cS1 := (unhide H1).cells; clear h1))
          go_wp2
          go_ret
          exact ⟨rfl, (unhide H6).st.kp.below (Nat.le_refl _) (by simp)⟩
        | j + 1, hj, HP =>
          have ej : ((j + 1 : Nat) : Int) - 1 = (j : Int) := by omega
          rw [ej]
          clear ej
          have hjl : j < l.length := by omega
          have hll : (j : Int) < (l.length : Int) := by omega
          obtain ⟨b, off, rfl, hbl, y0, y1⟩ := ((unhide HA).kp (unhide HP).st.kp).at j hjl
          obtain ⟨K, hK, hK8⟩ : ∃ K : Nat, l[j].k % 8 = (K : Int) ∧ K < 8 := ⟨(l[j].k % 8).toNat, by omega, by omega⟩
          have AM := hide meAmong_any
          have AB := hide (fun W (h : OT w W A B C D l N (j + 1) c d) => h.addB (by omega) hN1 hN2 K hK8 hK)
          have HX : Hid (∀ W, OT w W A B C D l N j c d → W.cell? ⟨b, off + j * 2, none⟩ = some (.int .i64 l[j].k) ∧ W.cell? ⟨b, off + j * 2 + 1, none⟩ = some (.int .i64 l[j].n)) := hide (fun W hW => by
            obtain ⟨b', off', e, _, z0, z1⟩ := ((unhide HA).kp hW.st.kp).at j hjl
            injection e with e; injection e with e1 e2; subst e1 e2; exact ⟨z0, z1⟩)
          clear HA hbl
          generalize hV : l[j].n % 1099511627776 = V at *
          generalize l[j].k = yk at *
          generalize l[j].n = yn at *
          have HPd : Hid (OT w wr.drew A B C D l N (j + 1) c d) := hide ⟨(unhide HP).st.next (Kp.drew _), (unhide HP).sum⟩
          have cS : wr.drew.cell? ⟨b, off + j * 2, none⟩ = some (.int .i64 yk) ∧ wr.drew.cell? ⟨b, off + j * 2 + 1, none⟩ = some (.int .i64 yn) := ⟨y0, y1⟩
          clear HP y0 y1
          go_wp2_with fail
          go_region_held3 (fun W => W.cell? ⟨b, off + j * 2, none⟩ = some (.int .i64 yk) ∧ W.cell? ⟨b, off + j * 2 + 1, none⟩ = some (.int .i64 yn))
            (first | with_reducible exact cS | with_reducible exact cS9)
            (first
              | (go_at_call 8; refine (unhide AM _ _ _ (by decide) (by decide)).mono ?_; rintro _ w5 ⟨rfl, rfl⟩)
              | (go_at_call 12; refine (unhide AB _ (unhide HPd)).mono ?_; rintro _ w8 ⟨⟨V1, rfl⟩, h8⟩; have H8 := hide h8; have cS9 := unhide HX _ (unhide H8); clear h8))
          go_wp2
          go_roundw
          case rel => exact ⟨j, by omega, by go_num, H8⟩
          case measure => simp [intOf]
end Go.Proofs.Ytmeoiljjfmlmgaa
