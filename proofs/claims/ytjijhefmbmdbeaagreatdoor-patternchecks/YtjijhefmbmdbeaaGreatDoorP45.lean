/-
  The document's answer for patterns: whether a stage may be where it stands.
  The document's answer for patterns: Check.
-/
import Derived.Test.YtjijhefmbmdbeaaGreatDoorP38
import Derived.Test.YtjijhefmbmdbeaaGreatDoorP44
namespace Go.Proofs.YtjijhefmbmdbeaaGreatDoor
open Go.RowKit Go.Shelf

set_option maxHeartbeats 4000000 in
set_option maxRecDepth 100000 in
theorem rmay_any (sa : Option Addr) (sc at_ : Nat) (l : List SR) (w : World) (h : StsAt w sa l) (hl : l.length ≤ 9223372036854775807) (hat : at_ < l.length) (hok : ∀ r ∈ l, r.s.ok) (hsz : ∀ r ∈ l, ∀ p ∈ r.s.cd, p.s.size ≤ 140737488351232 ∧ p.st.size ≤ 140737488351232) :
    Calls Tryz.prog 38 #[.slice sa l.length sc, .int .i64 (at_ : Int)] w fun e w' => e = .returned (.bool (stOk l[at_].s (nmsOf ((stgs l).take at_)))) ∧ Kp [] w w' := by
  obtain ⟨b, off, rfl, hbl, x0, x1, x2, x3, hpts⟩ := h.at at_ hat
  have hok1 := hok _ (List.getElem_mem hat)
  have hsz1 := hsz _ (List.getElem_mem hat)
  have HAH := hide (fun s W (hk : Kp [] w W) => rahead_any (some ⟨b, off, none⟩) sc at_ l s W (h.kp hk) hl (by omega))
  have HNMD := hide (fun W => rnamed_any l[at_].s.nm W hok1.1)
  have hnl : (nmsOf ((stgs l).take at_)).length = at_ := by rw [nmsOf_len, List.length_take, stgs_len]; omega
  have k0 : Kp [] w (w.alloc (.cells (stV l[at_].s l[at_].ad l[at_].c) 54)) := Kp.alloc _ _
  have bx := CBox.new w (stV l[at_].s l[at_].ad l[at_].c) 54
  have HCK : Hid (∀ W, Kp [] w W → Calls Tryz.prog 58 #[.slice l[at_].ad l[at_].s.cd.length l[at_].c] W fun e w' => e = .returned (.tuple #[.int .i64 (ckK l[at_].s.cd), .int .i64 (if ckK l[at_].s.cd = 0 then 110 else 0)]) ∧ Below W.heap.size W w') := hide (fun W hk => rCheck_any l[at_].ad l[at_].c l[at_].s.cd W (hpts.kp hk) (fun p hp => ⟨by have := (hsz1 p hp).1; omega, by have := (hsz1 p hp).2; omega⟩))
  have HST : Hid (∀ W, Kp [] w W → Calls Tryz.prog 59 #[.slice l[at_].ad l[at_].s.cd.length l[at_].c] W fun e w' => ∃ a q, e = .returned (.tuple #[.slice a (stgS l[at_].s.cd).length q, .int .i64 (if ckK l[at_].s.cd = 0 then 110 else 0)]) ∧ NmsAt w' a (stgS l[at_].s.cd) ∧ Below W.heap.size W w') := hide (fun W hk => (rStages_any l[at_].ad l[at_].c l[at_].s.cd W (hpts.kp hk) (fun p hp => ⟨by have := (hsz1 p hp).1; omega, by have := (hsz1 p hp).2; omega⟩)).mono fun e w' ⟨v, h1, h2, h3⟩ => by
    obtain ⟨a, q, e1, h4, _⟩ := h2.at
    subst e1
    exact ⟨a, q, h1, h4, h3⟩)
  have hrs : stOk l[at_].s (nmsOf ((stgs l).take at_)) = ((isSg l[at_].s.nm && (!hasN (nmsOf ((stgs l).take at_)) l[at_].s.nm && hwOk l[at_].s.hw at_)) && (decide (ckK l[at_].s.cd = 3) && (stgS l[at_].s.cd).all (hasN (nmsOf ((stgs l).take at_))))) := by
    unfold stOk cdOk
    rw [hnl, Bool.and_assoc, Bool.and_assoc]
  rw [hrs]
  have hsl := stgS_len l[at_].s.cd
  have HBX : Hid (∀ W, Kp [] (w.alloc (.cells (stV l[at_].s l[at_].ad l[at_].c) 54)) W → (W.cell? ⟨w.heap.size, 0, none⟩ = some (.string l[at_].s.nm) ∧ W.cell? ⟨w.heap.size, 1, none⟩ = some (.int .i64 l[at_].s.hw) ∧ W.cell? ⟨w.heap.size, 3, none⟩ = some (.slice l[at_].ad l[at_].s.cd.length l[at_].c)) ∧ Hid (Kp [] w W) ∧ w.heap.size < W.heap.size) := hide (fun W hk => ⟨⟨(bx.kp hk (by simp)).cell rfl, (bx.kp hk (by simp)).cell rfl, (bx.kp hk (by simp)).cell rfl⟩, hide (k0.trans hk (by simp)), by have := hk.size; simp at this; omega⟩)
  obtain ⟨n, hn⟩ : ∃ n, l.length = n := ⟨_, rfl⟩
  rw [hn] at hat hl HAH ⊢
  clear hrs hnl hok1 hsz1 hpts h hok hsz k0 bx
  generalize l[at_].s = s at *
  generalize l[at_].ad = ad at *
  generalize l[at_].c = cc at *
  generalize nmsOf ((stgs l).take at_) = AH at *
  obtain ⟨nm, hw, mn, cd⟩ := s
  unfold stV at HBX
  dsimp only at x0 x1 x2 x3 HAH HNMD HCK HST HBX hsl ⊢
  generalize stgS cd = SS at *
  generalize ckK cd = CK at *
  generalize cd.length = CL at *
  obtain ⟨X, hX⟩ : ∃ X, (isSg nm && (!hasN AH nm && hwOk hw at_)) = X := ⟨_, rfl⟩
  rw [hX]
  have HX := hide hX
  obtain ⟨R, hR⟩ : ∃ R, (X && (decide (CK = 3) && SS.all (hasN AH))) = R := ⟨_, rfl⟩
  rw [hR]
  have HR := hide hR
  clear hX hn hR
  have hai : ((at_ : Int) < (n : Int)) := by omega
  go_enter Tryz.func38, Tryz.ntmps38
  go_upto_region 2 with fail
  go_cut [43] (fun v wc => v = .bool (!X) ∧ Hid (Kp [] (w.alloc (.cells #[.string nm, .int .i64 hw, .bool mn, .slice ad CL cc] 54)) wc))
  case first =>
    obtain ⟨⟨y0, y1, y3⟩, HKW, hlt⟩ := unhide HBX _ (Kp.refl _ _)
    have ND := hide (unhide HNMD (w.alloc (.cells #[.string nm, .int .i64 hw, .bool mn, .slice ad CL cc] 54)))
    cases hsg : isSg nm with
    | false =>
      obtain rfl : X = false := by rw [← unhide HX, hsg]; rfl
      rw [hsg] at ND
      clear HX hsg HAH HCK HST HNMD
      go_wp2_with fail
      refine (unhide ND).mono ?_
      rintro e w1 ⟨rfl, hk1⟩
      have HK1 := hide hk1
      clear ND hk1
      go_wp2
      go_meet
      exact ⟨rfl, HK1⟩
    | true =>
      rw [hsg] at ND
      cases hhn : hasN AH nm with
      | true =>
        obtain rfl : X = false := by rw [← unhide HX, hsg, hhn]; rfl
        have HA2 := hide (fun W hk => unhide HAH nm W hk)
        rw [hhn] at HA2
        clear HX hsg hhn HAH HCK HST HNMD
        go_wp2_with fail
        refine (unhide ND).mono ?_
        rintro e w1 ⟨rfl, hk1⟩
        have HK1 := hide hk1
        obtain ⟨⟨z0, z1, z3⟩, HKW1, hlt1⟩ := unhide HBX _ hk1
        have A3 := hide (unhide HA2 _ (unhide HKW1))
        clear ND hk1 HA2 y0 y1 y3
        go_wp2_with fail
        refine (unhide A3).mono ?_
        rintro e w2 ⟨rfl, hk2⟩
        have HK2 := hide ((unhide HK1).trans hk2 (by simp))
        clear A3 hk2 z0 z1 z3
        go_wp2
        go_meet
        exact ⟨rfl, HK2⟩
      | false =>
        have HXW : Hid (X = hwOk hw at_) := hide (by rw [← unhide HX, hsg, hhn]; rfl)
        have HA2 := hide (fun W hk => unhide HAH nm W hk)
        rw [hhn] at HA2
        clear HX hsg hhn HAH HCK HST HNMD
        go_wp2_with fail
        refine (unhide ND).mono ?_
        rintro e w1 ⟨rfl, hk1⟩
        have HK1 := hide hk1
        obtain ⟨⟨z0, z1, z3⟩, HKW1, hlt1⟩ := unhide HBX _ hk1
        have A3 := hide (unhide HA2 _ (unhide HKW1))
        clear ND hk1 HA2 y0 y1 y3
        go_wp2_with fail
        refine (unhide A3).mono ?_
        rintro e w2 ⟨rfl, hk2⟩
        have HK2 := hide ((unhide HK1).trans hk2 (by simp))
        obtain ⟨⟨t0, t1, t3⟩, _, hlt2⟩ := unhide HBX _ (unhide HK2)
        clear A3 hk2 z0 z1 z3 HK1
        have hxw := unhide HXW
        unfold hwOk at hxw
        by_cases h0 : hw < 0
        · have g0 : (hw < 0) = True := eq_true h0
          rw [decide_eq_false (by omega), Bool.false_and] at hxw
          subst hxw
          clear HXW
          go_wp2
          go_meet
          exact ⟨rfl, HK2⟩
        · have g0 : (hw < 0) = False := eq_false h0
          rw [decide_eq_true (by omega : 0 ≤ hw), Bool.true_and] at hxw
          by_cases h3 : 3 < hw
          · have g3 : (3 < hw) = True := eq_true h3
            rw [decide_eq_false (by omega), Bool.false_and] at hxw
            subst hxw
            clear HXW
            go_wp2
            go_meet
            exact ⟨rfl, HK2⟩
          · have g3 : (3 < hw) = False := eq_false h3
            rw [decide_eq_true (by omega : hw ≤ 3), Bool.true_and] at hxw
            have e1 : (hw == 0) = decide (hw = 0) := by by_cases h : hw = 0 <;> simp [h]
            have e2 : ((at_ : Int) == 0) = decide (at_ = 0) := by by_cases h : at_ = 0 <;> simp [h]
            generalize decide (hw = 0) = D1 at *
            generalize decide (at_ = 0) = D2 at *
            subst hxw
            clear HXW
            cases D1 <;> cases D2
            all_goals
              go_wp2
              go_meet
              exact ⟨rfl, HK2⟩
  case rest =>
    obtain ⟨rfl, HKC⟩ := hcut
    obtain ⟨⟨y0, y1, y3⟩, HKW, hlt⟩ := unhide HBX _ (unhide HKC)
    cases X with
    | false =>
      obtain rfl : R = false := by rw [← unhide HR]; rfl
      clear HAH HCK HST HNMD HX HR
      go_wp2
      go_ret
      exact ⟨rfl, unhide HKW⟩
    | true =>
      have C := hide (unhide HCK wc (unhide HKW))
      by_cases h3 : CK = 3
      · subst h3
        rw [if_neg (by decide)] at C
        have HRA : Hid (SS.all (hasN AH) = R) := hide (by rw [← unhide HR]; simp)
        have HNO : Hid (∀ k (hk : k < SS.length), hasN AH SS[k] = false → R = false) := hide (fun k hk hh => by
          rw [← unhide HRA, Bool.eq_false_iff]
          intro h
          rw [List.all_eq_true] at h
          have := h _ (List.getElem_mem hk)
          rw [hh] at this
          cases this)
        have HYES : Hid ((∀ k (hk : k < SS.length), hasN AH SS[k] = true) → R = true) := hide (fun h => by
          rw [← unhide HRA, List.all_eq_true]
          intro x hx
          obtain ⟨k, hk, rfl⟩ := List.mem_iff_getElem.1 hx
          exact h k hk)
        clear HR HRA HNMD HX HCK
        obtain ⟨m, hm⟩ : ∃ m, SS.length = m := ⟨_, rfl⟩
        have HM := hide hm
        rw [hm] at HST hsl
        clear hm
        go_wp2_with fail
        refine (unhide C).mono ?_
        rintro e w1 ⟨rfl, hb1⟩
        have HK1 := hide ((unhide HKC).trans (Kp.ofBelow hb1) (by simp))
        obtain ⟨⟨z0, z1, z3⟩, HKW1, hlt1⟩ := unhide HBX _ (unhide HK1)
        have S3 := hide (unhide HST _ (unhide HKW1))
        clear C hb1 HST y0 y1 y3
        go_wp2_with fail
        refine (unhide S3).mono ?_
        rintro e w2 ⟨a, q, rfl, hnm, hb2⟩
        have HNA := hide hnm
        have HK2 := hide ((unhide HKW1).trans (Kp.ofBelow hb2) (by simp))
        have HK12 := hide (Kp.ofBelow hb2)
        clear S3 hb2 hnm z0 z1 z3
        go_wp2_with fail
        go_loopw [10] (fun i wr => ∃ k : Nat, k ≤ m ∧ i = .int .i64 (k : Int) ∧ Hid (Kp [] w2 wr) ∧ Hid (∀ j (hj : j < SS.length), j < k → hasN AH SS[j] = true)) (fun i _ => m - (intOf i).toNat)
        case atStart => exact ⟨0, Nat.zero_le _, rfl, hide (Kp.refl _ _), hide (fun j _ h => absurd h (Nat.not_lt_zero _))⟩
        case round =>
          obtain ⟨k, hk, rfl, HKR, HAL⟩ := hrel
          by_cases hkm : k < m
          · have hks : k < SS.length := by rw [unhide HM]; exact hkm
            have hki : (k : Int) < (m : Int) := by omega
            obtain ⟨b5, o5, rfl, hb5, hc5⟩ := ((unhide HNA).kp (unhide HKR) (by simp)) (fun e => by rw [e] at hks; simp at hks)
            have v0 := hc5 k hks
            have A3 := hide (unhide HAH SS[k] wr ((unhide HK2).trans (unhide HKR) (by simp)))
            have HNK := hide (unhide HNO k hks)
            have HAL2 : Hid (hasN AH SS[k] = true → ∀ j (hj : j < SS.length), j < k + 1 → hasN AH SS[j] = true) := hide (fun h j hj hjk => by
              rcases Nat.lt_or_ge j k with h1 | h1
              · exact unhide HAL j hj h1
              · obtain rfl : j = k := by omega
                exact h)
            clear hc5 HNO HYES HAH HAL
            generalize SS[k] = S0 at *
            generalize hasN AH S0 = B at *
            cases B with
            | false =>
              obtain rfl : R = false := unhide HNK rfl
              clear HNK HAL2
              go_wp2_with fail
              refine (unhide A3).mono ?_
              rintro e w5 ⟨rfl, hk5⟩
              have HK5 := hide (((unhide HK2).trans (unhide HKR) (by simp)).trans hk5 (by simp))
              clear A3 hk5
              go_wp2
              go_ret
              exact ⟨rfl, unhide HK5⟩
            | true =>
              have HAL3 := hide (unhide HAL2 rfl)
              clear HNK HAL2
              go_wp2_with fail
              refine (unhide A3).mono ?_
              rintro e w5 ⟨rfl, hk5⟩
              have HK5 := hide ((unhide HKR).trans hk5 (by simp))
              clear A3 hk5
              go_wp2
              go_roundw
              case rel => exact ⟨k + 1, by omega, by go_num, HK5, HAL3⟩
              case measure => simp [intOf]; omega
          · obtain rfl : k = m := by omega
            obtain rfl : R = true := unhide HYES (fun j hj => unhide HAL j hj (by rw [← unhide HM]; exact hj))
            have HKE := hide ((unhide HK2).trans (unhide HKR) (by simp))
            clear HNO HYES HAH HAL HNA
            go_wp2
            go_ret
            exact ⟨rfl, unhide HKE⟩
      · obtain rfl : R = false := by rw [← unhide HR, decide_eq_false h3]; rfl
        clear HR
        have g3 : (CK == 3) = false := beq_eq_false_iff_ne.2 h3
        have g4 : (CK = 3) = False := eq_false h3
        by_cases hz : CK = 0
        · subst hz
          rw [if_pos rfl] at C
          clear HAH HCK HST HNMD HX
          go_wp2_with fail
          refine (unhide C).mono ?_
          rintro e w1 ⟨rfl, hb1⟩
          have HK1 := hide ((unhide HKW).trans (Kp.ofBelow hb1) (by simp))
          clear C hb1
          go_wp2
          go_ret
          exact ⟨rfl, unhide HK1⟩
        · rw [if_neg hz] at C
          clear HAH HCK HST HNMD HX
          go_wp2_with fail
          refine (unhide C).mono ?_
          rintro e w1 ⟨rfl, hb1⟩
          have HK1 := hide ((unhide HKW).trans (Kp.ofBelow hb1) (by simp))
          clear C hb1
          go_wp2
          go_ret
          exact ⟨rfl, unhide HK1⟩
end Go.Proofs.YtjijhefmbmdbeaaGreatDoor
namespace Go.Proofs.YtjijhefmbmdbeaaGreatDoor
open Go.RowKit Go.Shelf

set_option maxHeartbeats 4000000 in
set_option maxRecDepth 100000 in
theorem rpcheck_any (sa : Option Addr) (sc : Nat) (l : List SR) (wi : Int) (w : World) (h : StsAt w sa l) (hl : l.length ≤ 9223372036854775807) (hok : ∀ r ∈ l, r.s.ok) (hsz : ∀ r ∈ l, ∀ p ∈ r.s.cd, p.s.size ≤ 140737488351232 ∧ p.st.size ≤ 140737488351232) :
    Calls Tryz.prog 22 #[.agg #[.slice sa l.length sc, .int .i64 wi]] w fun e w' => e = .returned (.tuple #[.int .i64 (pcR ⟨stgs l, wi⟩).1, .int .i64 (pcR ⟨stgs l, wi⟩).2]) ∧ Kp [] w w' := by
  have k0 : Kp [] w (w.alloc (.cells #[.slice sa l.length sc, .int .i64 wi] 24)) := Kp.alloc _ _
  have HPC : Hid (∀ W, Kp [] (w.alloc (.cells #[.slice sa l.length sc, .int .i64 wi] 24)) W → (W.cell? ⟨w.heap.size, 0, none⟩ = some (.slice sa l.length sc) ∧ W.cell? ⟨w.heap.size, 1, none⟩ = some (.int .i64 wi) ∧ w.heap.size < W.heap.size) ∧ Hid (Kp [] w W)) := hide (fun W hk => ⟨pat_cells hk, hide (k0.trans hk (by simp))⟩)
  by_cases hn : l.length < 1 ∨ 8 < l.length
  · have hp : pcR ⟨stgs l, wi⟩ = (0, 120) := by unfold pcR; rw [if_pos (by dsimp only; rw [stgs_len]; exact hn)]
    rw [hp]
    obtain ⟨⟨c0, c1, _⟩, HW⟩ := unhide HPC _ (Kp.refl _ _)
    clear h hok hsz hp k0 HPC
    rcases hn with hn | hn
    · have g1 : ((l.length : Int) < 1) = True := by simp; omega
      go_enter Tryz.func22, Tryz.ntmps22
      go_wp2
      exact bodyPost_ret (results_tmp2 rfl _ _ _) rfl ⟨rfl, unhide HW⟩
    · have g1 : ((l.length : Int) < 1) = False := by simp; omega
      have g2 : ((8 : Int) < (l.length : Int)) = True := by simp; omega
      go_enter Tryz.func22, Tryz.ntmps22
      go_wp2
      exact bodyPost_ret (results_tmp2 rfl _ _ _) rfl ⟨rfl, unhide HW⟩
  · have hp : pcR ⟨stgs l, wi⟩ = match bad1 (stgs l) [] 0 with | some i => ((i : Int), 120) | none => if wiOk wi then (0, 0) else ((l.length : Int), 120) := by
      unfold pcR
      rw [if_neg (by dsimp only; rw [stgs_len]; exact hn)]
      dsimp only
      rw [stgs_len]
      rfl
    rw [hp]
    have g1 : ((l.length : Int) < 1) = False := by simp; omega
    have g2 : ((8 : Int) < (l.length : Int)) = False := by simp; omega
    have hl8 : l.length ≤ 8 := by omega
    have HMY := hide (fun k (hk : k < l.length) W (hw : Kp [] w W) => rmay_any sa sc k l W (h.kp hw) hl hk hok hsz)
    have HNX : Hid (∀ k (hk : k < l.length), bad1 ((stgs l).drop k) (nmsOf ((stgs l).take k)) k = if stOk l[k].s (nmsOf ((stgs l).take k)) then bad1 ((stgs l).drop (k + 1)) (nmsOf ((stgs l).take (k + 1))) (k + 1) else some k) := hide (fun k hk => by
      have := bad1_next (l := stgs l) (k := k) (by rw [stgs_len]; exact hk)
      rw [stgs_at hk] at this
      exact this)
    have HEN : Hid (bad1 ((stgs l).drop l.length) (nmsOf ((stgs l).take l.length)) l.length = none) := hide (by have := bad1_end (stgs l); rwa [stgs_len] at this)
    obtain ⟨R, hR⟩ : ∃ R, bad1 (stgs l) [] 0 = R := ⟨_, rfl⟩
    have HR0 : Hid (R = bad1 ((stgs l).drop 0) (nmsOf ((stgs l).take 0)) 0) := hide (by rw [← hR]; rfl)
    rw [hR]
    obtain ⟨P, hP⟩ : ∃ P, (match R with | some i => ((i : Int), (120 : Int)) | none => if wiOk wi then (0, 0) else ((l.length : Int), 120)) = P := ⟨_, rfl⟩
    have HPS : Hid (∀ i, R = some i → P.1 = (i : Int) ∧ P.2 = 120) := hide (fun i e => by rw [← hP, e]; exact ⟨rfl, rfl⟩)
    have HPN : Hid (R = none → P = if wiOk wi then (0, 0) else ((l.length : Int), 120)) := hide (fun e => by rw [← hP, e])
    rw [hP]
    obtain ⟨PA, PC⟩ := P
    dsimp only at HPS ⊢
    clear hP hR h hok hp hn hsz k0
    obtain ⟨n, hn⟩ : ∃ n, l.length = n := ⟨_, rfl⟩
    have HN := hide hn
    rw [hn] at g1 g2 hl8 HEN HPC HPN ⊢
    have HMY2 : Hid (∀ k (hk : k < l.length) W, Kp [] w W → Calls Tryz.prog 38 #[.slice sa n sc, .int .i64 (k : Int)] W fun e w' => e = .returned (.bool (stOk l[k].s (nmsOf ((stgs l).take k)))) ∧ Kp [] W w') := hide (fun k hk W hw => by have := unhide HMY k hk W hw; rw [hn] at this; exact this)
    clear hn hl HMY
    obtain ⟨⟨c0, c1, hlt0⟩, _⟩ := unhide HPC _ (Kp.refl _ _)
    go_enter Tryz.func22, Tryz.ntmps22
    go_wp2_with fail
    go_loopw [4] (fun i wr => ∃ (k : Nat), k ≤ n ∧ i = .int .i64 (k : Int) ∧ Hid (Kp [] (w.alloc (.cells #[.slice sa n sc, .int .i64 wi] 24)) wr) ∧ Hid (R = bad1 ((stgs l).drop k) (nmsOf ((stgs l).take k)) k)) (fun i _ => n - (intOf i).toNat)
    case atStart => exact ⟨0, Nat.zero_le _, rfl, hide (Kp.refl _ _), HR0⟩
    case round =>
      obtain ⟨k, hk, rfl, HK, HRR⟩ := hrel
      clear c0 c1 hlt0 HR0
      obtain ⟨⟨c0, c1, hlt0⟩, HW⟩ := unhide HPC _ (unhide HK)
      by_cases hlt : k < n
      · have hkx : k < l.length := by rw [unhide HN]; exact hlt
        have hli : (k : Int) < (n : Int) := by omega
        have MY := hide (unhide HMY2 k hkx wr (unhide HW))
        have HX := hide (unhide HNX k hkx)
        clear HNX HMY2 HEN HPN
        generalize stOk l[k].s (nmsOf ((stgs l).take k)) = SO at *
        cases SO with
        | false =>
          obtain ⟨rfl, rfl⟩ := unhide HPS k (by rw [unhide HRR, unhide HX]; rfl)
          clear HX HRR HPS
          go_wp2_with fail
          refine (unhide MY).mono ?_
          rintro e w3 ⟨rfl, hk3⟩
          have HB := hide ((unhide HW).trans hk3 (by simp))
          clear MY hk3
          go_wp2
          exact bodyPost_ret (results_tmp2 rfl _ _ _) rfl ⟨rfl, unhide HB⟩
        | true =>
          have HR2 : Hid (R = bad1 ((stgs l).drop (k + 1)) (nmsOf ((stgs l).take (k + 1))) (k + 1)) := hide (by rw [unhide HRR, unhide HX]; rfl)
          clear HX HRR HPS
          go_wp2_with fail
          refine (unhide MY).mono ?_
          rintro e w3 ⟨rfl, hk3⟩
          have HK3 := hide ((unhide HK).trans hk3 (by simp))
          clear MY hk3
          go_wp2
          go_roundw
          case rel => exact ⟨k + 1, by omega, by go_num, HK3, HR2⟩
          case measure => simp [intOf]; omega
      · obtain rfl : k = n := by omega
        have hP := unhide HPN (by rw [unhide HRR]; exact unhide HEN)
        clear HRR HEN HNX HMY2 HPN HPS
        unfold wiOk at hP
        by_cases h1 : wi < 1
        · have gd : decide (1 ≤ wi) = false := decide_eq_false (by omega)
          rw [gd, Bool.false_and, if_neg (by simp)] at hP
          obtain ⟨rfl, rfl⟩ := Prod.mk.inj hP
          have g1 : (wi < 1) = True := by simp; omega
          clear hP gd
          go_wp2
          exact bodyPost_ret (results_tmp2 rfl _ _ _) rfl ⟨rfl, unhide HW⟩
        · have gd : decide (1 ≤ wi) = true := decide_eq_true (by omega)
          rw [gd, Bool.true_and] at hP
          have g1 : (wi < 1) = False := by simp; omega
          by_cases h2 : 256 < wi
          · rw [decide_eq_false (by omega : ¬ wi ≤ 256), if_neg (by simp)] at hP
            obtain ⟨rfl, rfl⟩ := Prod.mk.inj hP
            have g2 : ((256 : Int) < wi) = True := by simp; omega
            clear hP gd
            go_wp2
            exact bodyPost_ret (results_tmp2 rfl _ _ _) rfl ⟨rfl, unhide HW⟩
          · rw [decide_eq_true (by omega : wi ≤ 256), if_pos rfl] at hP
            obtain ⟨rfl, rfl⟩ := Prod.mk.inj hP
            have g2 : ((256 : Int) < wi) = False := by simp; omega
            clear hP gd
            go_wp2
            exact bodyPost_ret (results_tmp2 rfl _ _ _) rfl ⟨rfl, unhide HW⟩
end Go.Proofs.YtjijhefmbmdbeaaGreatDoor
