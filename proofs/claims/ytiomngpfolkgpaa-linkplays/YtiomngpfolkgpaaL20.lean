/-
  The document's answer for the bytes of an item (number, item) is the plain functions'.
  The document's answer for the bytes of a list (Decode) is the plain function's.
-/
import Derived.Test.YtiomngpfolkgpaaL04
import Derived.Test.YtiomngpfolkgpaaL06
namespace Go.Proofs.Ytiomngpfolkgpaa
open Go.RowKit

theorem joinR (U c : Nat) (hU : U < 144115188075855872) : ∃ V : Nat, V < 18446744073709551616 ∧ (U : Int) * 128 + (c : Int) % 128 = (V : Int) ∧ U * 128 + c % 128 = V := ⟨_, by omega, by omega, rfl⟩
set_option maxHeartbeats 2000000 in
set_option maxRecDepth 100000 in
theorem refReadNumber_any (b : ByteArray) (at_ : Nat) (w : World) (hat : at_ ≤ b.size) (hb : b.size ≤ 140737488351232) :
    Calls Try.prog 54 #[.string b, .int .i64 (at_ : Int)] w fun e w' =>
      e = .returned (.tuple #[.int .i64 (rnV (rdN (b.data.toList.drop at_) 0 0)), .int .i64 (rnE at_ (rdN (b.data.toList.drop at_) 0 0)), .int .i64 (rdN (b.data.toList.drop at_) 0 0).2.2]) ∧ w' = w := by
  generalize hR : rdN (b.data.toList.drop at_) 0 0 = R
  have HR := hide hR
  clear hR
  go_enter Try.func54, Try.ntmps54
  go_wp2
  go_loop [7, 8] (fun u i => ∃ j U : Nat, at_ ≤ j ∧ j ≤ b.size ∧ i = .int .i64 (j : Int) ∧ u = .int .u64 (U : Int) ∧ U < 18446744073709551616 ∧ Hid (rdN (b.data.toList.drop j) U (j - at_) = R)) (fun _ i => b.size - (intOf i).toNat)
  case atStart => exact ⟨at_, 0, by omega, by omega, rfl, rfl, by omega, hide (by rw [Nat.sub_self]; exact unhide HR)⟩
  case round =>
    obtain ⟨j, U, haj, hj, rfl, rfl, hU, HK⟩ := hrel
    by_cases hlt : j < b.size
    · have hd := drop_get b j hlt
      have hK := unhide HK
      rw [hd, rdN] at hK
      clear hd HK
      have hc : (b[j]).toNat < 256 := (b[j]).toNat_lt
      by_cases hbad : (j - at_ = 0 ∧ (b[j]).toNat = 128) ∨ 144115188075855872 ≤ U
      · rw [if_pos hbad] at hK
        subst hK
        clear HR
        rcases Nat.lt_or_ge U 144115188075855872 with h57 | h57
        · obtain ⟨b1, b2⟩ : (((j : Int) == (at_ : Int)) = true) ∧ ((((b[j]).toNat : Int) == 128) = true) := by
            rcases hbad with ⟨q1, q2⟩ | q
            · exact ⟨beq_iff_eq.2 (by omega), beq_iff_eq.2 (by omega)⟩
            · omega
          clear hbad
          go_wp2
          go_ret3
          exact ⟨rfl, rfl⟩
        · clear hbad
          have hge : decide ((144115188075855872 : Int) ≤ (U : Int)) = true := decide_eq_true (by omega)
          clear h57
          by_cases b1 : j = at_
          · have b1' : ((j : Int) == (at_ : Int)) = true := beq_iff_eq.2 (by omega)
            clear b1
            by_cases b2 : (b[j]).toNat = 128
            · have b2' : (((b[j]).toNat : Int) == 128) = true := beq_iff_eq.2 (by omega)
              clear b2
              go_wp2
              all_goals go_ret3
              all_goals exact ⟨rfl, rfl⟩
            · have b2' : (((b[j]).toNat : Int) == 128) = false := beq_eq_false_iff_ne.2 (by omega)
              clear b2
              go_wp2
              all_goals go_ret3
              all_goals exact ⟨rfl, rfl⟩
          · have b1' : ((j : Int) == (at_ : Int)) = false := beq_eq_false_iff_ne.2 (by omega)
            clear b1
            go_wp2
            all_goals go_ret3
            all_goals exact ⟨rfl, rfl⟩
      · rw [if_neg hbad] at hK
        have h57 : U < 144115188075855872 := by omega
        have hge : decide ((144115188075855872 : Int) ≤ (U : Int)) = false := decide_eq_false (by omega)
        obtain ⟨V, hV, hor, eV⟩ := joinR U (b[j]).toNat h57
        rw [eV] at hK
        clear eV
        have HK := hide hK
        have Hbad := hide hbad
        have HOR := hide hor
        have hbk := fun w => back_any V w hV
        rw [← hor] at hbk
        have HBK := hide hbk
        clear hK hbad hor hbk
        by_cases hlow : (b[j]).toNat < 128
        · have hK := unhide HK
          rw [if_pos hlow] at hK
          have HK2 := hide hK
          clear hK HK HR
          have hok := rn_ok at_ j V haj
          rw [unhide HK2] at hok
          have HR2 : Hid (R.2.2 = 0) := by rw [← unhide HK2]; exact rfl
          have HOK := hide hok
          clear hok HK2
          by_cases b1 : j = at_
          · have b1' : ((j : Int) == (at_ : Int)) = true := beq_iff_eq.2 (by omega)
            have b2' : (((b[j]).toNat : Int) == 128) = false := beq_eq_false_iff_ne.2 (by omega)
            clear b1
            go_wp2_with fail
            refine (unhide HBK _).mono ?_
            rintro e w1 ⟨rfl, rfl⟩
            go_wp2
            go_ret3
            exact ⟨by rw [(unhide HOK).1, (unhide HOK).2, unhide HR2]; rfl, rfl⟩
          · have b1' : ((j : Int) == (at_ : Int)) = false := beq_eq_false_iff_ne.2 (by omega)
            clear b1
            go_wp2_with fail
            refine (unhide HBK _).mono ?_
            rintro e w1 ⟨rfl, rfl⟩
            go_wp2
            go_ret3
            exact ⟨by rw [(unhide HOK).1, (unhide HOK).2, unhide HR2]; rfl, rfl⟩
        · have hK := unhide HK
          rw [if_neg hlow, show j - at_ + 1 = (j + 1) - at_ by omega] at hK
          have HK2 := hide hK
          clear hK HK HR
          by_cases b1 : j = at_
          · have b1' : ((j : Int) == (at_ : Int)) = true := beq_iff_eq.2 (by omega)
            have b2' : (((b[j]).toNat : Int) == 128) = false := beq_eq_false_iff_ne.2 (fun h => unhide Hbad (Or.inl ⟨by omega, by omega⟩))
            clear b1
            go_wp2
            go_round
            case rel => exact ⟨j + 1, V, by omega, by omega, by go_num, congrArg (Value.int .u64) (unhide HOR), hV, unhide HK2⟩
            case measure => simp [intOf]; omega
          · have b1' : ((j : Int) == (at_ : Int)) = false := beq_eq_false_iff_ne.2 (by omega)
            clear b1
            go_wp2
            go_round
            case rel => exact ⟨j + 1, V, by omega, by omega, by go_num, congrArg (Value.int .u64) (unhide HOR), hV, unhide HK2⟩
            case measure => simp [intOf]; omega
    · have hj' : j = b.size := by omega
      have hK := unhide HK
      rw [List.drop_of_length_le (by simp; omega), rdN] at hK
      subst hK
      clear hj' HR HK
      go_wp2
      go_ret3
      exact ⟨rfl, rfl⟩
set_option maxHeartbeats 2000000 in
set_option maxRecDepth 100000 in
theorem refItem_any (b : ByteArray) (at_ : Nat) (w : World) (hat : at_ < b.size) (hb : b.size ≤ 140737488351232) :
    Calls Try.prog 49 #[.string b, .int .i64 (at_ : Int)] w fun e w' =>
      e = .returned (.tuple #[(rdI (b.data.toList.drop at_)).1.v, .int .i64 (riE at_ (rdI (b.data.toList.drop at_))), .int .i64 (rdI (b.data.toList.drop at_)).2.2]) ∧ Below w.heap.size w w' := by
  have hd := drop_get b at_ hat
  generalize hQ : rdI (b.data.toList.drop at_) = Q
  rw [hd, rdI] at hQ
  clear hd
  have hc : (b[at_]).toNat < 256 := (b[at_]).toNat_lt
  by_cases h12 : (b[at_]).toNat ≠ 1 ∧ (b[at_]).toNat ≠ 2
  · rw [if_pos h12] at hQ
    subst hQ
    obtain ⟨q1, q2⟩ := h12
    have g1 : (((b[at_]).toNat : Int) != 1) = true := by rw [bne_iff_ne]; omega
    have g2 : (((b[at_]).toNat : Int) != 2) = true := by rw [bne_iff_ne]; omega
    clear q1 q2
    go_enter Try.func49, Try.ntmps49
    go_wp2
    exact bodyPost_ret (v := .tuple #[It.zero.v, .int .i64 0, .int .i64 3]) (by simp [results, Try.results49, go_sem, It.zero, It.v]) rfl ⟨rfl, (Below.refl _ _).alloc (Nat.le_refl _) _⟩
  · rw [if_neg h12] at hQ
    have hn := fun w => refReadNumber_any b (at_ + 1) w (by omega) hb
    generalize hR : rdN (b.data.toList.drop (at_ + 1)) 0 0 = R at *
    have hrl : (b.data.toList.drop (at_ + 1)).length = b.size - (at_ + 1) := by rw [List.length_drop, Array.length_toList]; rfl
    obtain ⟨V, m, code⟩ := R
    dsimp only at hQ hn
    have HN := hide hn
    clear hn
    have e1 : (((at_ + 1 : Nat)) : Int) = (at_ : Int) + 1 := by omega
    by_cases hcode : code = 0
    · subst hcode
      obtain ⟨_, k2, k3⟩ := rdN_ok _ 0 0 V m (by omega) hR
      clear hR
      rw [if_neg (by simp)] at hQ
      have hN := fun w => unhide HN w
      simp only [rnV, rnE, if_true, e1] at hN
      have hub := unzig_lo k3
      generalize hnV : unzig V = n at *
      clear hnV k3
      have hE : at_ + 1 + m ≤ b.size := by omega
      generalize hEe : at_ + 1 + m = E at *
      have HN2 := hide hN
      clear HN hN e1
      by_cases g : (b[at_]).toNat = 1
      · rw [if_pos g] at hQ
        subst hQ
        have g1 : (((b[at_]).toNat : Int) != 1) = false := by simp; omega
        have g1' : (((b[at_]).toNat : Int) == 1) = true := by simp; omega
        have hz : riE at_ (⟨false, n, ⟨#[]⟩⟩, 1 + m, 0) = (E : Int) := by unfold riE; rw [if_pos rfl]; dsimp only; omega
        have HZ := hide hz
        clear g h12 hz hrl hEe k2
        go_enter Try.func49, Try.ntmps49
        go_wp2_with fail
        refine (unhide HN2 _).mono ?_
        rintro e w1 ⟨rfl, rfl⟩
        go_wp2
        exact bodyPost_ret (v := .tuple #[It.v ⟨false, n, ⟨#[]⟩⟩, .int .i64 (E : Int), .int .i64 0]) (by simp [results, Try.results49, go_sem, It.v]) rfl ⟨by rw [unhide HZ], (Below.refl _ _).alloc (Nat.le_refl _) _⟩
      · rw [if_neg g] at hQ
        have g1 : (((b[at_]).toNat : Int) != 1) = true := by rw [bne_iff_ne]; omega
        have g1' : (((b[at_]).toNat : Int) == 1) = false := by simp; omega
        have g2 : (((b[at_]).toNat : Int) != 2) = false := by simp; omega
        clear g h12
        by_cases hr : n < 0 ∨ 262144 < n
        · rw [if_pos hr] at hQ
          subst hQ
          have hz : riE at_ (It.zero, 0, 3) = 0 := rfl
          have HZ := hide hz
          clear hz hrl hEe k2
          rcases Int.lt_or_le n 0 with hn0 | hn0
          · clear hr
            go_enter Try.func49, Try.ntmps49
            go_wp2_with fail
            refine (unhide HN2 _).mono ?_
            rintro e w1 ⟨rfl, rfl⟩
            go_wp2
            all_goals exact bodyPost_ret (v := .tuple #[It.zero.v, .int .i64 0, .int .i64 3]) (by simp [results, Try.results49, go_sem, It.zero, It.v]) rfl ⟨by rw [unhide HZ], (Below.refl _ _).alloc (Nat.le_refl _) _⟩
          · have hn1 : 262144 < n := by omega
            clear hr
            go_enter Try.func49, Try.ntmps49
            go_wp2_with fail
            refine (unhide HN2 _).mono ?_
            rintro e w1 ⟨rfl, rfl⟩
            go_wp2
            all_goals exact bodyPost_ret (v := .tuple #[It.zero.v, .int .i64 0, .int .i64 3]) (by simp [results, Try.results49, go_sem, It.zero, It.v]) rfl ⟨by rw [unhide HZ], (Below.refl _ _).alloc (Nat.le_refl _) _⟩
        · rw [if_neg hr] at hQ
          have hn0 : 0 ≤ n := by omega
          have hn1 : n ≤ 262144 := by omega
          clear hr
          rw [hrl] at hQ
          by_cases hshort : (b.size : Int) < (E : Int) + n
          · rw [if_pos (by omega)] at hQ
            subst hQ
            have hz : riE at_ (It.zero, 0, 11) = 0 := rfl
            have HZ := hide hz
            clear hz hrl hEe k2
            go_enter Try.func49, Try.ntmps49
            go_wp2_with fail
            refine (unhide HN2 _).mono ?_
            rintro e w1 ⟨rfl, rfl⟩
            go_wp2
            all_goals exact bodyPost_ret (v := .tuple #[It.zero.v, .int .i64 0, .int .i64 11]) (by simp [results, Try.results49, go_sem, It.zero, It.v]) rfl ⟨by rw [unhide HZ], (Below.refl _ _).alloc (Nat.le_refl _) _⟩
          · rw [if_neg (by omega)] at hQ
            obtain ⟨N, rfl⟩ := Int.eq_ofNat_of_zero_le hn0
            have HQ := hide hQ
            have HE := hide hEe
            clear hQ hEe hrl k2
            go_enter Try.func49, Try.ntmps49
            go_wp2_with fail
            refine (unhide HN2 _).mono ?_
            rintro e w1 ⟨rfl, rfl⟩
            have heq : It.v Q.1 = .agg #[.bool true, .int .i64 0, .string (b.extract E (E + N))] ∧ riE at_ Q = (E : Int) + (N : Int) ∧ Q.2.2 = 0 := by
              rw [← unhide HQ, Int.toNat_natCast]
              refine ⟨?_, ?_, rfl⟩
              · unfold It.v
                dsimp only
                rw [ext_take, List.drop_drop, unhide HE]
              · unfold riE; rw [if_pos rfl]; dsimp only; have := unhide HE; omega
            have HEQ := hide heq
            clear heq
            go_wp2
            exact bodyPost_ret (v := .tuple #[.agg #[.bool true, .int .i64 0, .string (b.extract E (E + N))], .int .i64 ((E : Int) + (N : Int)), .int .i64 0]) (by simp [results, Try.results49, go_sem]) rfl
              ⟨by rw [(unhide HEQ).1, (unhide HEQ).2.1, (unhide HEQ).2.2], (Below.refl _ _).alloc (Nat.le_refl _) _⟩
    · clear hR
      rw [if_pos hcode] at hQ
      subst hQ
      have gc : (code != 0) = true := by rw [bne_iff_ne]; exact hcode
      have hz : riE at_ (It.zero, 0, code) = 0 := by unfold riE; rw [if_neg hcode]
      have hN := fun w => unhide HN w
      simp only [rnV, rnE, if_neg hcode, e1] at hN
      have HN2 := hide hN
      have HZ := hide hz
      clear HN hN hz hcode e1 hrl
      by_cases g : (b[at_]).toNat = 1
      · have g1 : (((b[at_]).toNat : Int) != 1) = false := by simp; omega
        clear g h12
        go_enter Try.func49, Try.ntmps49
        go_wp2_with fail
        refine (unhide HN2 _).mono ?_
        rintro e w1 ⟨rfl, rfl⟩
        go_wp2
        exact bodyPost_ret (v := .tuple #[It.zero.v, .int .i64 0, .int .i64 code]) (by simp [results, Try.results49, go_sem, It.zero, It.v]) rfl ⟨by rw [unhide HZ], (Below.refl _ _).alloc (Nat.le_refl _) _⟩
      · have g1 : (((b[at_]).toNat : Int) != 1) = true := by rw [bne_iff_ne]; omega
        have g2 : (((b[at_]).toNat : Int) != 2) = false := by simp; omega
        clear g h12
        go_enter Try.func49, Try.ntmps49
        go_wp2_with fail
        refine (unhide HN2 _).mono ?_
        rintro e w1 ⟨rfl, rfl⟩
        go_wp2
        exact bodyPost_ret (v := .tuple #[It.zero.v, .int .i64 0, .int .i64 code]) (by simp [results, Try.results49, go_sem, It.zero, It.v]) rfl ⟨by rw [unhide HZ], (Below.refl _ _).alloc (Nat.le_refl _) _⟩
end Go.Proofs.Ytiomngpfolkgpaa
namespace Go.Proofs.Ytiomngpfolkgpaa
open Go.RowKit

set_option maxHeartbeats 400000 in
theorem refFault_any (p c : Int) (w : World) :
    Calls Try.prog 48 #[.int .i64 p, .int .i64 c] w fun e w' => e = .returned (.agg #[.int .i64 p, .int .i64 c]) ∧ w' = w.alloc (.cells #[.int .i64 p, .int .i64 c] 92) := by
  go_enter Try.func48, Try.ntmps48
  go_wp2
  exact bodyPost_ret (v := .agg #[.int .i64 p, .int .i64 c]) (by simp [results, Try.results48, go_sem]) rfl ⟨rfl, rfl⟩
set_option maxHeartbeats 2000000 in
set_option maxRecDepth 100000 in
theorem refDecode_any (b : ByteArray) (w : World) (hb : b.size ≤ 9223372036854775807) :
    Calls Try.prog 42 #[.string b] w fun e w' => ∃ v, e = .returned (.tuple #[v, .agg #[.int .i64 (decS b.data.toList).2.1, .int .i64 (decS b.data.toList).2.2]]) ∧ OwnsI w.heap.size w' v (decS b.data.toList).1 ∧ Below w.heap.size w w' := by
  generalize hR : decS b.data.toList = R
  have hbl : b.data.toList.length = b.size := Array.length_toList
  unfold decS at hR
  rw [hbl] at hR
  clear hbl
  by_cases hbig : 262144 < b.size
  · rw [if_pos hbig] at hR
    subst hR
    go_enter Try.func42, Try.ntmps42
    go_wp2_with fail
    refine (refFault_any 0 2 _).mono ?_
    rintro e w2 ⟨rfl, rfl⟩
    have hfb : FBox w.heap.size ((w.alloc (.cells #[.int .i64 0, .int .i64 0] 92)).alloc (.cells #[.int .i64 0, .int .i64 2] 92)) := (Below.heap_alloc _ _ _ (by simp)).trans (heap_alloc_new w _)
    have hbel : Below w.heap.size w ((w.alloc (.cells #[.int .i64 0, .int .i64 0] 92)).alloc (.cells #[.int .i64 0, .int .i64 2] 92)) := ((Below.refl _ _).alloc (Nat.le_refl _) _).alloc (by simp) _
    generalize ((w.alloc (.cells #[.int .i64 0, .int .i64 0] 92)).alloc (.cells #[.int .i64 0, .int .i64 2] 92)) = w2 at *
    have hfc := hfb.cells
    go_wp2
    exact bodyPost_ret (v := .tuple #[.slice none 0 0, .agg #[.int .i64 0, .int .i64 2]]) (by simp [results, Try.results42, go_sem, hfc]) rfl ⟨_, rfl, OwnsI.nil _ _, (hbel.setCell (Nat.le_refl _) _).setCell (Nat.le_refl _) _⟩
  · rw [if_neg hbig] at hR
    have HR := hide hR
    clear hR
    obtain ⟨i0, hi, hz0, hz1, hz2⟩ := info_parts info_Item
    go_enter Try.func42, Try.ntmps42
    go_wp2_with fail
    go_loopw [4, 5] (fun v p wr => ∃ (j f : Nat) (acc : List It), j ≤ b.size ∧ p = .int .i64 (j : Int) ∧ OwnsI w.heap.size wr v acc ∧ Below w.heap.size w wr ∧ FBox w.heap.size wr ∧ acc.length ≤ 4096 ∧ b.size - j ≤ f ∧ Hid (decF f (b.data.toList.drop j) j acc = R)) (fun _ p _ => b.size - (intOf p).toNat)
    case atStart => exact ⟨0, b.size, [], Nat.zero_le _, rfl, OwnsI.nil _ _, (Below.refl _ _).alloc (Nat.le_refl _) _, heap_alloc_new _ _, by simp, by omega, HR⟩
    case round =>
      obtain ⟨j, f, acc, hj, rfl, hown, hbel, hfb, hacc, hf, HD⟩ := hrel
      obtain ⟨av, cv, rfl⟩ := hown.form
      have hfc := hfb.cells
      have hfl := hfb.lt
      by_cases hlt : j < b.size
      · obtain ⟨f, rfl⟩ : ∃ f', f = f' + 1 := ⟨f - 1, by omega⟩
        have hne : b.data.toList.drop j ≠ [] := fun e => by
          have := congrArg List.length e
          rw [List.length_drop, Array.length_toList] at this
          have : b.data.size = b.size := rfl
          simp at *; omega
        have hd := unhide HD
        rw [decF, if_neg hne] at hd
        clear HD hne
        by_cases hful : acc.length = 4096
        · rw [if_pos hful] at hd
          subst hd
          have hq : ((acc.length : Int) == 4096) = true := by simp; omega
          clear hful HR
          go_wp2_with fail
          refine (refFault_any (j : Int) 2 _).mono ?_
          rintro e w2 ⟨rfl, rfl⟩
          have hbel2 : Below w.heap.size w (wr.alloc (.cells #[.int .i64 (j : Int), .int .i64 2] 92)) := hbel.alloc (Nat.le_of_lt hfl) _
          have hfb2 : FBox w.heap.size (wr.alloc (.cells #[.int .i64 (j : Int), .int .i64 2] 92)) := (Below.heap_alloc _ _ _ hfl).trans hfb
          generalize (wr.alloc (.cells #[.int .i64 (j : Int), .int .i64 2] 92)) = w2 at *
          clear hfc hbel hfb hfl
          have hfc := hfb2.cells
          have hbel := hbel2
          go_wp2
          exact bodyPost_ret (v := .tuple #[.slice none 0 0, .agg #[.int .i64 (j : Int), .int .i64 2]]) (by simp [results, Try.results42, go_sem, hfc]) rfl ⟨_, rfl, OwnsI.nil _ _, (hbel.setCell (Nat.le_refl _) _).setCell (Nat.le_refl _) _⟩
        · rw [if_neg hful] at hd
          have hq : ((acc.length : Int) == 4096) = false := by simp; omega
          have hfull : acc.length < 4096 := by omega
          clear hful HR
          have hri := refItem_any b j wr hlt (by omega)
          have hok := rdI_ok (b.data.toList.drop j)
          rw [List.length_drop, Array.length_toList, show b.data.size = b.size from rfl] at hok
          generalize rdI (b.data.toList.drop j) = Q at *
          obtain ⟨⟨t, n, s⟩, m, code⟩ := Q
          dsimp only at hd hri hok
          by_cases hcode : code = 0
          · subst hcode
            rw [if_neg (by simp)] at hd
            have hm := hok rfl
            clear hok
            have hri' : Calls Try.prog 49 #[.string b, .int .i64 (j : Int)] wr fun e w' => e = .returned (.tuple #[.agg #[.bool t, .int .i64 n, .string s], .int .i64 ((j + m : Nat) : Int), .int .i64 0]) ∧ Below wr.heap.size wr w' := hri
            have HC := hide hri'
            have HD := hide hd
            clear hri hri' hd
            go_wp2_with fail
            refine (unhide HC).mono ?_
            rintro e w1 ⟨rfl, hb1⟩
            have hfb1 := hfb.below hb1 hfl
            have hfl1 := hfb1.lt
            have hbel1 : Below w.heap.size w w1 := hbel.trans (hb1.mono (Nat.le_of_lt hfl))
            have hown1 := hown.below hb1 (Nat.le_refl _)
            have HFB := hide hfb1
            clear hfb hfc hown hbel hb1 hfb1
            go_wp2_with (at_builtin; refine wpList_append_own _ rfl _ _ 77 rfl w.heap.size 84 i0 (.agg #[.bool false, .int .i64 0, .string ⟨#[]⟩]) 3 32 Try.underlying77 hi hz0 hz1 hz2 rfl (by decide) _ _ _ rfl ((hown1.alloc _).alloc _) ⟨w1.heap.size + 1, 0, none⟩ 1 1 [.bool t, .int .i64 n, .string s] rfl rfl ?c1 ?c2 ?c3 ?c4 ?c5 ?_)
            case c1 =>
              intro q u hq
              match q, hq with
              | 0, hq => simp at hq; subst hq; simp [Addr.add]
              | 1, hq => simp at hq; subst hq; simp [Addr.add]
              | 2, hq => simp at hq; subst hq; simp [Addr.add]
            case c2 => intro u hu; simp at hu; rcases hu with rfl | rfl | rfl <;> rfl
            case c3 => unfold maxLen; omega
            case c4 => omega
            case c5 => simp; omega
            intro v' w2 hown2 hgrow _
            have hfr : Fr w.heap.size 84 w1 w2 := (((Fr.refl _ _ w1).alloc (Nat.le_of_lt hfl1) _).alloc (by simp; omega) _).grown ((hown1.alloc _).alloc _) hgrow (by simp; omega)
            have hfb2 : FBox w.heap.size w2 := hfr.keep (unhide HFB) (by decide)
            have hown3 : OwnsI w.heap.size w2 v' (acc ++ [⟨t, n, s⟩]) := by
              unfold OwnsI
              rw [itemC_append, List.length_append]
              exact hown2
            have hbel2 := hbel1.trans hfr.below
            clear hown2 hgrow hown1 hfr hbel1 HFB
            have HFB := hide hfb2
            clear hfb2
            rw [List.drop_drop] at HD
            go_wp2
            go_roundw
            case rel => exact ⟨j + m, f, acc ++ [⟨t, n, s⟩], by omega, by go_num, hown3, hbel2, unhide HFB, by simp; omega, by omega, HD⟩
            case measure => simp [intOf]; omega
          · rw [if_pos hcode] at hd
            subst hd
            have gc : (code != 0) = true := by rw [bne_iff_ne]; exact hcode
            have hri' : Calls Try.prog 49 #[.string b, .int .i64 (j : Int)] wr fun e w' => e = .returned (.tuple #[.agg #[.bool t, .int .i64 n, .string s], .int .i64 0, .int .i64 code]) ∧ Below wr.heap.size wr w' := by
              have e0 : riE j (⟨t, n, s⟩, m, code) = 0 := by unfold riE; rw [if_neg hcode]
              rw [e0] at hri
              exact hri
            have HC := hide hri'
            clear hri hri' hok hcode
            go_wp2_with fail
            refine (unhide HC).mono ?_
            rintro e w1 ⟨rfl, hb1⟩
            have hfb1 := hfb.below hb1 hfl
            have hfc1 := hfb1.cells
            have hfl1 := hfb1.lt
            have hbel1 : Below w.heap.size w w1 := hbel.trans (hb1.mono (Nat.le_of_lt hfl))
            have hbel2 : Below w.heap.size w (w1.alloc (.cells #[.bool t, .int .i64 n, .string s] 84)) := hbel1.alloc (Nat.le_of_lt hfl1) _
            have hfb2 : FBox w.heap.size (w1.alloc (.cells #[.bool t, .int .i64 n, .string s] 84)) := (Below.heap_alloc _ _ _ hfl1).trans hfb1
            clear hfb hfc hown hbel hb1 hfb1 hfc1 hbel1
            go_wp2_with fail
            generalize (w1.alloc (.cells #[.bool t, .int .i64 n, .string s] 84)) = w2 at *
            refine (refFault_any (j : Int) code _).mono ?_
            rintro e w3 ⟨rfl, rfl⟩
            have hfl2 := hfb2.lt
            have hbel3 : Below w.heap.size w (w2.alloc (.cells #[.int .i64 (j : Int), .int .i64 code] 92)) := hbel2.alloc (Nat.le_of_lt hfl2) _
            have hfb3 : FBox w.heap.size (w2.alloc (.cells #[.int .i64 (j : Int), .int .i64 code] 92)) := (Below.heap_alloc _ _ _ hfl2).trans hfb2
            generalize (w2.alloc (.cells #[.int .i64 (j : Int), .int .i64 code] 92)) = w3 at *
            have hfc3 := hfb3.cells
            clear hbel2 hfb2 hfl2
            go_wp2
            exact bodyPost_ret (v := .tuple #[.slice none 0 0, .agg #[.int .i64 (j : Int), .int .i64 code]]) (by simp [results, Try.results42, go_sem, hfc3]) rfl ⟨_, rfl, OwnsI.nil _ _, (hbel3.setCell (Nat.le_refl _) _).setCell (Nat.le_refl _) _⟩
      · have hd := unhide HD
        rw [List.drop_of_length_le (by simp; omega), decF_nil] at hd
        subst hd
        clear HD HR
        go_wp2
        exact bodyPost_ret (v := .tuple #[.slice av acc.length cv, .agg #[.int .i64 0, .int .i64 0]]) (by simp [results, Try.results42, go_sem, hfc]) rfl ⟨_, rfl, hown.fault hfb _ _, (hbel.setCell (Nat.le_refl _) _).setCell (Nat.le_refl _) _⟩
end Go.Proofs.Ytiomngpfolkgpaa
