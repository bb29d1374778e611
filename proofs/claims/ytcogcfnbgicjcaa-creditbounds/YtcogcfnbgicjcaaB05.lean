/-
  CreditBounds: its walk.
-/
import Derived.Test.YtcogcfnbgicjcaaB04
namespace Go.Proofs.Ytcogcfnbgicjcaa
open Go.RowKit Cr

set_option maxHeartbeats 16000000 in
set_option maxRecDepth 100000 in
theorem cbounds_walk (x0 : Int) (ad : Option Addr) (cap : Nat) (l : List Int) (w : World) (_hl : l.length ≤ 9223372036854775807) (hA : IntsAt w ad l) (_hok : ∀ y ∈ l, -9223372036854775808 ≤ y ∧ y ≤ 9223372036854775807) :
    Calls Try.prog 4 #[.int .i64 x0, .slice ad l.length cap] w fun e w' => e = .returned (.bool true) ∧ Below w.heap.size w w' := by
  have WK := hide (cWorks_any w)
  have AM := hide (fun W => cAmong_any x0 256 W (by decide) (by decide))
  obtain ⟨n, hn⟩ : ∃ n : Nat, x0 % 256 = (n : Int) := ⟨(x0 % 256).toNat, by have := Int.emod_nonneg x0 (show (256 : Int) ≠ 0 by decide); omega⟩
  have hnl : n < 256 := by have := Int.emod_lt_of_pos x0 (show (0 : Int) < 256 by decide); omega
  rw [hn] at AM
  obtain ⟨c, hc⟩ : ∃ c : Nat, c = 1 + n := ⟨_, rfl⟩
  have hc0 : (1 : Int) + (n : Int) = (c : Int) := by omega
  have hc1 : 1 ≤ c ∧ c ≤ 256 := by omega
  have NS := hide (fun W => newStore_ok c W (by omega) (by omega))
  have NP := hide newPurse_any
  have HL := hide hA
  clear hA hn hc
  go_enter Try.func4, Try.ntmps4
  go_wp2_with fail
  refine (unhide WK).mono ?_
  rintro r w1 ⟨rfl, k1⟩
  have K1 := hide k1
  clear WK k1
  go_wp2_with fail
  refine (unhide AM _).mono ?_
  rintro r w1' ⟨rfl, rfl⟩
  clear AM
  go_wp2_with fail
  refine (unhide NS _).mono ?_
  rintro r w2 ⟨rfl, a2, k2⟩
  have A2 := hide a2
  have K2 := hide k2
  clear NS a2 k2
  go_wp2_with fail
  refine (unhide NP _).mono ?_
  rintro r w3 ⟨rfl, a3, k3⟩
  have hsz := (unhide K1).size
  have hsz2 := (unhide K2).size
  have HB : Hid (Bn w w3 w1'.heap.size w2.heap.size c 0 0 0) := hide ⟨(unhide A2).kp k3 (by simp), a3, ((unhide K1).trans (unhide K2) (by simp)).trans k3 (by simp), hsz, by omega⟩
  clear NP a3 k3 A2 K2 K1 hsz hsz2
  generalize w1'.heap.size = b at *
  generalize w2.heap.size = p at *
  go_wp2_with fail
  go_loopw [11, 8, 9, 10] (fun iv sv tv gv wr => ∃ (k T m d S G : Nat), k ≤ l.length ∧ k ≤ 300 ∧ G ≤ T + 256 ∧ S ≤ k ∧ T ≤ S ∧ S ≤ G ∧ iv = .int .i64 (k : Int) ∧ sv = .int .i64 (S : Int) ∧ tv = .int .i64 (T : Int) ∧ gv = .int .i64 (G : Int) ∧ Hid (S = T + m) ∧ Hid (G = S + d) ∧ Hid (Bn w wr b p c T m d)) (fun iv _ _ _ _ => l.length - (intOf iv).toNat)
  case atStart => exact ⟨0, 0, 0, 0, 0, 0, Nat.zero_le _, by decide, by decide, Nat.zero_le _, Nat.zero_le _, Nat.zero_le _, rfl, rfl, rfl, rfl, hide rfl, hide rfl, HB⟩
  case round =>
    clear HB
    obtain ⟨k, T, m, d, S, G, hkl, hk, hGT, hSk, hTS, hSG, rfl, rfl, rfl, rfl, HSS, HGG, HR⟩ := hrel
    by_cases h1 : k < l.length ∧ k < 300
    · obtain ⟨h1, h2⟩ := h1
      have h1i : (k : Int) < (l.length : Int) := by omega
      have h2i : (k : Int) < 300 := by omega
      obtain ⟨lb, lo, rfl, hcl⟩ := bints_cell (unhide HL) (unhide HR).kp k h1
      have AM3 := hide (fun W => cAmong_any l[k] 3 W (by decide) (by decide))
      have AM7 := hide (fun W => cAmong_any l[k] 7 W (by decide) (by decide))
      obtain ⟨x, hx⟩ : ∃ x : Nat, l[k] % 7 = (x : Int) := ⟨(l[k] % 7).toNat, by have := Int.emod_nonneg l[k] (show (7 : Int) ≠ 0 by decide); omega⟩
      rw [hx] at AM7
      have hxl : x < 7 := by have := Int.emod_lt_of_pos l[k] (show (0 : Int) < 7 by decide); omega
      obtain ⟨z, hz⟩ : ∃ z : Nat, l[k] % 3 = (z : Int) := ⟨(l[k] % 3).toNat, by have := Int.emod_nonneg l[k] (show (3 : Int) ≠ 0 by decide); omega⟩
      rw [hz] at AM3
      have hzl : z < 3 := by have := Int.emod_lt_of_pos l[k] (show (0 : Int) < 3 by decide); omega
      clear hx hz
      generalize l[k] = y at *
      by_cases hz0 : z = 0
      · subst hz0
        clear AM7 hxl hzl
        by_cases hd0 : d = 0
        · have HD0 := hide hd0
          clear hd0
          go_wp2_with fail
          refine (unhide AM3 _).mono ?_
          rintro r wa ⟨rfl, rfl⟩
          clear AM3 hcl
          have t0 : ¬ (G : Int) > (S : Int) := by have := unhide HGG; have := unhide HD0; omega
          have SP : Hid (Calls Try.prog 15 #[.pointer (some ⟨p, 0, none⟩)] wa fun e w' => e = .returned (.int .i64 200) ∧ PsAt w' p d ∧ Kp [p] wa w') := hide (by
            have h0 := unhide HD0
            have := pSpend_any p d wa (unhide HR).ps (by omega)
            rw [show spE d = 200 by unfold spE; rw [if_pos h0], show d - 1 = d by omega] at this
            exact this)
          go_wp2_with fail
          refine (unhide SP).mono ?_
          rintro r wb ⟨rfl, s1, s2⟩
          have HB : Hid (Bn w wb b p c T m d) := hide ⟨(unhide HR).st.kp s2 (by simpa using (unhide HR).ne), s1, kp_own (unhide HR).kp s2 (unhide HR).gep, (unhide HR).geb, (unhide HR).gep⟩
          clear SP HR s1 s2
          have LN := hide (cLen_any b _ wb (unhide HB).st)
          have OW := hide (cOwed_any b _ wb (unhide HB).st)
          have HS := hide (pHas_any p (d) wb (unhide HB).ps)
          have t1 : ((S : Nat) : Int) - ((T : Nat) : Int) = ((m : Nat) : Int) := by have := unhide HSS; have := unhide HGG; omega
          have t2 : ((G : Nat) : Int) - ((S : Nat) : Int) = ((d : Nat) : Int) := by have := unhide HSS; have := unhide HGG; omega
          have t3 : ¬ ((G : Nat) : Int) - ((T : Nat) : Int) > (c : Int) := by have := unhide HSS; have := unhide HGG; have := (unhide HB).room; omega
          have t4 : ¬ ((m : Nat) : Int) > (c : Int) := by have := (unhide HB).room; omega
          have HFIN : Hid (∃ (k2 T2 m2 d2 S2 G2 : Nat), k2 ≤ l.length ∧ k2 ≤ 300 ∧ G2 ≤ T2 + 256 ∧ S2 ≤ k2 ∧ T2 ≤ S2 ∧ S2 ≤ G2 ∧ ((k : Int) + 1) = (k2 : Int) ∧ ((S : Nat) : Int) = (S2 : Int) ∧ ((T : Nat) : Int) = (T2 : Int) ∧ ((G : Nat) : Int) = (G2 : Int) ∧ Hid (S2 = T2 + m2) ∧ Hid (G2 = S2 + d2) ∧ Hid (Bn w wb b p c T2 m2 d2)) := hide (by
            have := unhide HSS; have := unhide HGG; have := (unhide HB).room
            exact ⟨k + 1, T, m, d, S, G, by omega, by omega, by omega, by omega, by omega, by omega, by omega, rfl, rfl, rfl, hide (by omega), hide (by omega), HB⟩)
          dsimp only at LN OW
          rw [bq_len] at LN
          clear HB HSS HGG
          go_wp2_with fail
          refine (unhide LN).mono ?_
          rintro r wz ⟨rfl, hwz⟩
          obtain rfl := hwz.symm
          try clear t0
          go_wp2_with fail
          refine (unhide LN).mono ?_
          rintro r wz ⟨rfl, hwz⟩
          obtain rfl := hwz.symm
          go_wp2_with fail
          refine (unhide OW).mono ?_
          rintro r wz ⟨rfl, hwz⟩
          obtain rfl := hwz.symm
          go_wp2_with fail
          refine (unhide HS).mono ?_
          rintro r wz ⟨rfl, hwz⟩
          obtain rfl := hwz.symm
          clear LN OW HS
          go_wp2
          clear t1 t2 t3 t4
          go_roundw
          case rel =>
            obtain ⟨k2, T2, m2, d2, S2, G2, f1, f2, f3, f4, f5, f6, f7, f8, f9, f10, f11, f12, f13⟩ := unhide HFIN
            exact ⟨k2, T2, m2, d2, S2, G2, f1, f2, f3, f4, f5, f6, by rw [← f7]; try go_num, by rw [← f8]; try go_num, by rw [← f9]; try go_num, by rw [← f10]; try go_num, f11, f12, f13⟩
          case measure => simp [intOf]; omega
        · obtain ⟨d, rfl⟩ : ∃ e, d = e + 1 := ⟨d - 1, by omega⟩
          clear hd0
          go_wp2_with fail
          refine (unhide AM3 _).mono ?_
          rintro r wa ⟨rfl, rfl⟩
          clear AM3 hcl
          have t0 : (G : Int) > (S : Int) := by have := unhide HGG; omega
          have SP : Hid (Calls Try.prog 15 #[.pointer (some ⟨p, 0, none⟩)] wa fun e w' => e = .returned (.int .i64 0) ∧ PsAt w' p d ∧ Kp [p] wa w') := hide (pSpend_any p (d + 1) wa (unhide HR).ps (by have := (unhide HR).room; omega))
          go_wp2_with fail
          refine (unhide SP).mono ?_
          rintro r wb ⟨rfl, s1, s2⟩
          have S1 := hide s1
          have S2 := hide s2
          have CV := bone_string wb S
          have PU : Hid (Calls Try.prog 16 #[.pointer (some ⟨b, 0, none⟩), .string (bmk S)] (wb.alloc (.cells #[.int .u8 ((S % 256 : Nat) : Int)] 5)) fun e w' => e = .returned (.int .i64 0) ∧ CrAt w' b ⟨c, d, bq T (m + 1)⟩ ∧ Kp [b] (wb.alloc (.cells #[.int .u8 ((S % 256 : Nat) : Int)] 5)) w') := hide (by
            rw [bq_snoc, ← unhide HSS]
            exact cPut_any b ⟨c, d + 1, bq T m⟩ (bmk S) _ (((unhide HR).st.kp s2 (by simpa using (unhide HR).ne)).kp (Kp.alloc _ _) (by simp)) (by unfold bmk; exact (by decide : 1 ≤ 281474976710656)))
          have hcv : (S : Int) % 256 = ((S % 256 : Nat) : Int) := by omega
          have KA := hide (Kp.alloc wb (.cells #[.int .u8 ((S % 256 : Nat) : Int)] 5))
          clear SP s1 s2
          generalize bmk S = tx at *
          generalize S % 256 = u at *
          go_wp2_with fail
          refine (unhide PU).mono ?_
          rintro r wc ⟨rfl, u1, u2⟩
          have HB : Hid (Bn w wc b p c T (m + 1) d) := hide ((unhide HR).sent (unhide S1) (unhide S2) (unhide KA) u1 u2)
          clear PU HR u1 u2 S1 S2 KA CV hcv
          have LN := hide (cLen_any b _ wc (unhide HB).st)
          have OW := hide (cOwed_any b _ wc (unhide HB).st)
          have HS := hide (pHas_any p (d) wc (unhide HB).ps)
          have t1 : ((S + 1 : Nat) : Int) - ((T : Nat) : Int) = ((m + 1 : Nat) : Int) := by have := unhide HSS; have := unhide HGG; omega
          have t2 : ((G : Nat) : Int) - ((S + 1 : Nat) : Int) = ((d : Nat) : Int) := by have := unhide HSS; have := unhide HGG; omega
          have t3 : ¬ ((G : Nat) : Int) - ((T : Nat) : Int) > (c : Int) := by have := unhide HSS; have := unhide HGG; have := (unhide HB).room; omega
          have t4 : ¬ ((m + 1 : Nat) : Int) > (c : Int) := by have := (unhide HB).room; omega
          have HFIN : Hid (∃ (k2 T2 m2 d2 S2 G2 : Nat), k2 ≤ l.length ∧ k2 ≤ 300 ∧ G2 ≤ T2 + 256 ∧ S2 ≤ k2 ∧ T2 ≤ S2 ∧ S2 ≤ G2 ∧ ((k : Int) + 1) = (k2 : Int) ∧ ((S + 1 : Nat) : Int) = (S2 : Int) ∧ ((T : Nat) : Int) = (T2 : Int) ∧ ((G : Nat) : Int) = (G2 : Int) ∧ Hid (S2 = T2 + m2) ∧ Hid (G2 = S2 + d2) ∧ Hid (Bn w wc b p c T2 m2 d2)) := hide (by
            have := unhide HSS; have := unhide HGG; have := (unhide HB).room
            exact ⟨k + 1, T, m + 1, d, S + 1, G, by omega, by omega, by omega, by omega, by omega, by omega, by omega, rfl, rfl, rfl, hide (by omega), hide (by omega), HB⟩)
          dsimp only at LN OW
          rw [bq_len] at LN
          clear HB HSS HGG
          go_wp2_with fail
          refine (unhide LN).mono ?_
          rintro r wz ⟨rfl, hwz⟩
          obtain rfl := hwz.symm
          try clear t0
          go_wp2_with fail
          refine (unhide LN).mono ?_
          rintro r wz ⟨rfl, hwz⟩
          obtain rfl := hwz.symm
          go_wp2_with fail
          refine (unhide OW).mono ?_
          rintro r wz ⟨rfl, hwz⟩
          obtain rfl := hwz.symm
          go_wp2_with fail
          refine (unhide HS).mono ?_
          rintro r wz ⟨rfl, hwz⟩
          obtain rfl := hwz.symm
          clear LN OW HS
          go_wp2
          clear t1 t2 t3 t4
          go_roundw
          case rel =>
            obtain ⟨k2, T2, m2, d2, S2, G2, f1, f2, f3, f4, f5, f6, f7, f8, f9, f10, f11, f12, f13⟩ := unhide HFIN
            exact ⟨k2, T2, m2, d2, S2, G2, f1, f2, f3, f4, f5, f6, by rw [← f7]; try go_num, by rw [← f8]; try go_num, by rw [← f9]; try go_num, by rw [← f10]; try go_num, f11, f12, f13⟩
          case measure => simp [intOf]; omega
      · by_cases hz1 : z = 1
        · subst hz1
          clear AM7 hxl hzl hz0
          by_cases hm0 : m = 0
          · have HM0 := hide hm0
            clear hm0
            go_wp2_with fail
            refine (unhide AM3 _).mono ?_
            rintro r wa ⟨rfl, rfl⟩
            clear AM3 hcl
            have t0 : ¬ (T : Int) < (S : Int) := by have := unhide HSS; have := unhide HM0; omega
            have TK : Hid (Calls Try.prog 17 #[.pointer (some ⟨b, 0, none⟩)] wa fun e w' => e = .returned (.tuple #[.string ⟨#[]⟩, .int .i64 5]) ∧ CrAt w' b ⟨c, d, bq T m⟩ ∧ Kp [b] wa w') := hide (by
              have hst := (unhide HR).st
              rw [unhide HM0] at hst ⊢
              exact cTake_any b ⟨c, d, bq T 0⟩ wa hst)
            go_wp2_with fail
            refine (unhide TK).mono ?_
            rintro r wb ⟨rfl, s1, s2⟩
            have HB : Hid (Bn w wb b p c T m d) := hide ((unhide HR).store s1 s2)
            clear TK HR s1 s2
            have LN := hide (cLen_any b _ wb (unhide HB).st)
            have OW := hide (cOwed_any b _ wb (unhide HB).st)
            have HS := hide (pHas_any p (d) wb (unhide HB).ps)
            have t1 : ((S : Nat) : Int) - ((T : Nat) : Int) = ((m : Nat) : Int) := by have := unhide HSS; have := unhide HGG; omega
            have t2 : ((G : Nat) : Int) - ((S : Nat) : Int) = ((d : Nat) : Int) := by have := unhide HSS; have := unhide HGG; omega
            have t3 : ¬ ((G : Nat) : Int) - ((T : Nat) : Int) > (c : Int) := by have := unhide HSS; have := unhide HGG; have := (unhide HB).room; omega
            have t4 : ¬ ((m : Nat) : Int) > (c : Int) := by have := (unhide HB).room; omega
            have HFIN : Hid (∃ (k2 T2 m2 d2 S2 G2 : Nat), k2 ≤ l.length ∧ k2 ≤ 300 ∧ G2 ≤ T2 + 256 ∧ S2 ≤ k2 ∧ T2 ≤ S2 ∧ S2 ≤ G2 ∧ ((k : Int) + 1) = (k2 : Int) ∧ ((S : Nat) : Int) = (S2 : Int) ∧ ((T : Nat) : Int) = (T2 : Int) ∧ ((G : Nat) : Int) = (G2 : Int) ∧ Hid (S2 = T2 + m2) ∧ Hid (G2 = S2 + d2) ∧ Hid (Bn w wb b p c T2 m2 d2)) := hide (by
              have := unhide HSS; have := unhide HGG; have := (unhide HB).room
              exact ⟨k + 1, T, m, d, S, G, by omega, by omega, by omega, by omega, by omega, by omega, by omega, rfl, rfl, rfl, hide (by omega), hide (by omega), HB⟩)
            dsimp only at LN OW
            rw [bq_len] at LN
            clear HB HSS HGG
            go_wp2_with fail
            refine (unhide LN).mono ?_
            rintro r wz ⟨rfl, hwz⟩
            obtain rfl := hwz.symm
            try clear t0
            go_wp2_with fail
            refine (unhide LN).mono ?_
            rintro r wz ⟨rfl, hwz⟩
            obtain rfl := hwz.symm
            go_wp2_with fail
            refine (unhide OW).mono ?_
            rintro r wz ⟨rfl, hwz⟩
            obtain rfl := hwz.symm
            go_wp2_with fail
            refine (unhide HS).mono ?_
            rintro r wz ⟨rfl, hwz⟩
            obtain rfl := hwz.symm
            clear LN OW HS
            go_wp2
            clear t1 t2 t3 t4
            go_roundw
            case rel =>
              obtain ⟨k2, T2, m2, d2, S2, G2, f1, f2, f3, f4, f5, f6, f7, f8, f9, f10, f11, f12, f13⟩ := unhide HFIN
              exact ⟨k2, T2, m2, d2, S2, G2, f1, f2, f3, f4, f5, f6, by rw [← f7]; try go_num, by rw [← f8]; try go_num, by rw [← f9]; try go_num, by rw [← f10]; try go_num, f11, f12, f13⟩
            case measure => simp [intOf]; omega
          · obtain ⟨m, rfl⟩ : ∃ e, m = e + 1 := ⟨m - 1, by omega⟩
            clear hm0
            go_wp2_with fail
            refine (unhide AM3 _).mono ?_
            rintro r wa ⟨rfl, rfl⟩
            clear AM3 hcl
            have t0 : (T : Int) < (S : Int) := by have := unhide HSS; omega
            have TK : Hid (Calls Try.prog 17 #[.pointer (some ⟨b, 0, none⟩)] wa fun e w' => e = .returned (.tuple #[.string (bmk T), .int .i64 0]) ∧ CrAt w' b ⟨c, d, bq (T + 1) m⟩ ∧ Kp [b] wa w') := hide (cTake_any b ⟨c, d, bq T (m + 1)⟩ wa (unhide HR).st)
            go_wp2_with fail
            refine (unhide TK).mono ?_
            rintro r wb ⟨rfl, s1, s2⟩
            have CV := bone_string wb T
            have hcv : (T : Int) % 256 = ((T % 256 : Nat) : Int) := by omega
            have HB : Hid (Bn w (wb.alloc (.cells #[.int .u8 ((T % 256 : Nat) : Int)] 5)) b p c (T + 1) m d) := hide (((unhide HR).store s1 s2).quiet (Kp.alloc _ _))
            clear TK HR s1 s2
            generalize bmk T = tx at *
            generalize T % 256 = u at *
            have LN := hide (cLen_any b _ (wb.alloc (.cells #[.int .u8 (u : Int)] 5)) (unhide HB).st)
            have OW := hide (cOwed_any b _ (wb.alloc (.cells #[.int .u8 (u : Int)] 5)) (unhide HB).st)
            have HS := hide (pHas_any p (d) (wb.alloc (.cells #[.int .u8 (u : Int)] 5)) (unhide HB).ps)
            have t1 : ((S : Nat) : Int) - ((T + 1 : Nat) : Int) = ((m : Nat) : Int) := by have := unhide HSS; have := unhide HGG; omega
            have t2 : ((G : Nat) : Int) - ((S : Nat) : Int) = ((d : Nat) : Int) := by have := unhide HSS; have := unhide HGG; omega
            have t3 : ¬ ((G : Nat) : Int) - ((T + 1 : Nat) : Int) > (c : Int) := by have := unhide HSS; have := unhide HGG; have := (unhide HB).room; omega
            have t4 : ¬ ((m : Nat) : Int) > (c : Int) := by have := (unhide HB).room; omega
            have HFIN : Hid (∃ (k2 T2 m2 d2 S2 G2 : Nat), k2 ≤ l.length ∧ k2 ≤ 300 ∧ G2 ≤ T2 + 256 ∧ S2 ≤ k2 ∧ T2 ≤ S2 ∧ S2 ≤ G2 ∧ ((k : Int) + 1) = (k2 : Int) ∧ ((S : Nat) : Int) = (S2 : Int) ∧ ((T + 1 : Nat) : Int) = (T2 : Int) ∧ ((G : Nat) : Int) = (G2 : Int) ∧ Hid (S2 = T2 + m2) ∧ Hid (G2 = S2 + d2) ∧ Hid (Bn w (wb.alloc (.cells #[.int .u8 (u : Int)] 5)) b p c T2 m2 d2)) := hide (by
              have := unhide HSS; have := unhide HGG; have := (unhide HB).room
              exact ⟨k + 1, T + 1, m, d, S, G, by omega, by omega, by omega, by omega, by omega, by omega, by omega, rfl, rfl, rfl, hide (by omega), hide (by omega), HB⟩)
            dsimp only at LN OW
            rw [bq_len] at LN
            clear HB HSS HGG
            go_wp2_with fail
            refine (unhide LN).mono ?_
            rintro r wz ⟨rfl, hwz⟩
            obtain rfl := hwz.symm
            try clear t0
            go_wp2_with fail
            refine (unhide LN).mono ?_
            rintro r wz ⟨rfl, hwz⟩
            obtain rfl := hwz.symm
            go_wp2_with fail
            refine (unhide OW).mono ?_
            rintro r wz ⟨rfl, hwz⟩
            obtain rfl := hwz.symm
            go_wp2_with fail
            refine (unhide HS).mono ?_
            rintro r wz ⟨rfl, hwz⟩
            obtain rfl := hwz.symm
            clear LN OW HS
            go_wp2
            clear t1 t2 t3 t4
            go_roundw
            case rel =>
              obtain ⟨k2, T2, m2, d2, S2, G2, f1, f2, f3, f4, f5, f6, f7, f8, f9, f10, f11, f12, f13⟩ := unhide HFIN
              exact ⟨k2, T2, m2, d2, S2, G2, f1, f2, f3, f4, f5, f6, by rw [← f7]; try go_num, by rw [← f8]; try go_num, by rw [← f9]; try go_num, by rw [← f10]; try go_num, f11, f12, f13⟩
            case measure => simp [intOf]; omega
        · obtain rfl : z = 2 := by omega
          clear hz0 hz1 hzl
          go_wp2_with fail
          refine (unhide AM3 _).mono ?_
          rintro r wa ⟨rfl, rfl⟩
          clear AM3 hcl
          obtain ⟨n2, hn2⟩ : ∃ n2, n2 = min x (c - m - d) := ⟨_, rfl⟩
          have hn3 : n2 ≤ c - m - d ∧ n2 ≤ 6 := by omega
          have GV : Hid (Calls Try.prog 18 #[.pointer (some ⟨b, 0, none⟩), .int .i64 (x : Int)] wa fun e w' => e = .returned (.tuple #[.int .i64 (n2 : Int), .int .i64 0]) ∧ CrAt w' b ⟨c, d + n2, bq T m⟩ ∧ Kp [b] wa w') := hide (by
            have := cGive_any b ⟨c, d, bq T m⟩ (x : Int) wa (unhide HR).st
            have e1 : gvN ⟨c, d, bq T m⟩ (x : Int) = n2 := by unfold gvN; simp only [bq_len]; omega
            have e2 : gvE (x : Int) = 0 := by unfold gvE; rw [if_neg (by omega)]
            unfold gvS at this
            rw [e1, e2] at this
            exact this)
          clear hn2
          go_wp2_with fail
          refine (unhide AM7 _).mono ?_
          rintro r wb ⟨rfl, rfl⟩
          clear AM7
          go_wp2_with fail
          refine (unhide GV).mono ?_
          rintro r wc ⟨rfl, s1, s2⟩
          have AD : Hid (Calls Try.prog 19 #[.pointer (some ⟨p, 0, none⟩), .int .i64 (n2 : Int)] wc fun e w' => e = .returned (.int .i64 0) ∧ PsAt w' p (d + n2) ∧ Kp [p] wc w') := hide (by
            have := pAdd_any p d (n2 : Int) wc (CBox.kp (unhide HR).ps s2 (by simpa using fun e => (unhide HR).ne e.symm)) (by have := (unhide HR).room; omega)
            have hroom := (unhide HR).room
            have e1 : adE d (n2 : Int) = 0 := by unfold adE; rw [if_neg (by omega), if_neg (by omega)]
            have e2 : adN d (n2 : Int) = d + n2 := by unfold adN; rw [if_neg (by omega), if_neg (by omega)]; omega
            rw [e1, e2] at this
            exact this)
          have S1 := hide s1
          have S2 := hide s2
          clear GV s1 s2
          go_wp2_with fail
          refine (unhide AD).mono ?_
          rintro r wd ⟨rfl, u1, u2⟩
          have HB : Hid (Bn w wd b p c T m (d + n2)) := hide ((unhide HR).given (unhide S1) (unhide S2) u1 u2)
          clear AD HR S1 S2 u1 u2
          have LN := hide (cLen_any b _ wd (unhide HB).st)
          have OW := hide (cOwed_any b _ wd (unhide HB).st)
          have HS := hide (pHas_any p (d + n2) wd (unhide HB).ps)
          have t1 : ((S : Nat) : Int) - ((T : Nat) : Int) = ((m : Nat) : Int) := by have := unhide HSS; have := unhide HGG; omega
          have t2 : ((G + n2 : Nat) : Int) - ((S : Nat) : Int) = ((d + n2 : Nat) : Int) := by have := unhide HSS; have := unhide HGG; omega
          have t3 : ¬ ((G + n2 : Nat) : Int) - ((T : Nat) : Int) > (c : Int) := by have := unhide HSS; have := unhide HGG; have := (unhide HB).room; omega
          have t4 : ¬ ((m : Nat) : Int) > (c : Int) := by have := (unhide HB).room; omega
          have HFIN : Hid (∃ (k2 T2 m2 d2 S2 G2 : Nat), k2 ≤ l.length ∧ k2 ≤ 300 ∧ G2 ≤ T2 + 256 ∧ S2 ≤ k2 ∧ T2 ≤ S2 ∧ S2 ≤ G2 ∧ ((k : Int) + 1) = (k2 : Int) ∧ ((S : Nat) : Int) = (S2 : Int) ∧ ((T : Nat) : Int) = (T2 : Int) ∧ ((G + n2 : Nat) : Int) = (G2 : Int) ∧ Hid (S2 = T2 + m2) ∧ Hid (G2 = S2 + d2) ∧ Hid (Bn w wd b p c T2 m2 d2)) := hide (by
            have := unhide HSS; have := unhide HGG; have := (unhide HB).room
            exact ⟨k + 1, T, m, d + n2, S, G + n2, by omega, by omega, by omega, by omega, by omega, by omega, by omega, rfl, rfl, rfl, hide (by omega), hide (by omega), HB⟩)
          dsimp only at LN OW
          rw [bq_len] at LN
          clear HB HSS HGG
          go_wp2_with fail
          refine (unhide LN).mono ?_
          rintro r wz ⟨rfl, hwz⟩
          obtain rfl := hwz.symm
          try clear t0
          go_wp2_with fail
          refine (unhide LN).mono ?_
          rintro r wz ⟨rfl, hwz⟩
          obtain rfl := hwz.symm
          go_wp2_with fail
          refine (unhide OW).mono ?_
          rintro r wz ⟨rfl, hwz⟩
          obtain rfl := hwz.symm
          go_wp2_with fail
          refine (unhide HS).mono ?_
          rintro r wz ⟨rfl, hwz⟩
          obtain rfl := hwz.symm
          clear LN OW HS
          go_wp2
          clear t1 t2 t3 t4
          go_roundw
          case rel =>
            obtain ⟨k2, T2, m2, d2, S2, G2, f1, f2, f3, f4, f5, f6, f7, f8, f9, f10, f11, f12, f13⟩ := unhide HFIN
            exact ⟨k2, T2, m2, d2, S2, G2, f1, f2, f3, f4, f5, f6, by rw [← f7]; try go_num, by rw [← f8]; try go_num, by rw [← f9]; try go_num, by rw [← f10]; try go_num, f11, f12, f13⟩
          case measure => simp [intOf]; omega
    · have hout : ¬ (k : Int) < (l.length : Int) ∨ ¬ (k : Int) < 300 := by omega
      obtain ⟨gt, hgt⟩ : ∃ gt : Nat, (G : Int) - (T : Int) = (gt : Int) := ⟨G - T, by omega⟩
      have hroom := (unhide HR).room
      have hfin : (c : Int) - (gt : Int) = ((c - m - d : Nat) : Int) := by have := unhide HSS; have := unhide HGG; omega
      clear HL
      have GV : Hid (Calls Try.prog 18 #[.pointer (some ⟨b, 0, none⟩), .int .i64 256] wr fun e w' => e = .returned (.tuple #[.int .i64 ((c - m - d : Nat) : Int), .int .i64 0]) ∧ Kp [b] wr w') := hide (by
        refine (cGive_any b ⟨c, d, bq T m⟩ 256 wr (unhide HR).st).mono ?_
        rintro e w' ⟨rfl, _, h3⟩
        refine ⟨?_, h3⟩
        rw [show gvN ⟨c, d, bq T m⟩ 256 = c - m - d by unfold gvN; simp only [bq_len]; omega]
        rfl)
      generalize c - m - d = rst at *
      have HK := hide (unhide HR).kp
      have hge := (unhide HR).geb
      clear HR
      by_cases h5 : (k : Int) < (l.length : Int)
      · have h6 : ¬ (k : Int) < 300 := hout.resolve_left (fun h => h h5)
        clear hout
        go_wp2_with fail
        refine (unhide GV).mono ?_
        rintro r w5 ⟨rfl, g1⟩
        have HF := hide ((kp_own (unhide HK) g1 hge).below (Nat.le_refl _) (by simp))
        clear GV g1 HK
        go_wp2
        go_ret
        exact ⟨rfl, unhide HF⟩
      · clear hout
        go_wp2_with fail
        refine (unhide GV).mono ?_
        rintro r w5 ⟨rfl, g1⟩
        have HF := hide ((kp_own (unhide HK) g1 hge).below (Nat.le_refl _) (by simp))
        clear GV g1 HK
        go_wp2
        go_ret
        exact ⟨rfl, unhide HF⟩
end Go.Proofs.Ytcogcfnbgicjcaa
