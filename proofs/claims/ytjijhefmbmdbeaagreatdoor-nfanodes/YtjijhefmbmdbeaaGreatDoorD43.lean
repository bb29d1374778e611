/-
  The document's answer for patterns: a stage's name; whether a name stands ahead.
  Small facts that the document's walks share.
  Names that are among others, as far as a place.
  The document's Stages is the plain function.
  The document's answer for patterns: whether a stage may be where it stands.
-/
import Derived.Test.YtjijhefmbmdbeaaGreatDoorD42
import Derived.Test.YtjijhefmbmdbeaaGreatDoorD23
import Derived.Test.YtjijhefmbmdbeaaGreatDoorD06
import Derived.Test.YtjijhefmbmdbeaaGreatDoorD21
import Derived.Test.YtjijhefmbmdbeaaGreatDoorD31
namespace Go.Proofs.YtjijhefmbmdbeaaGreatDoor
open Go.RowKit Go.Shelf

set_option maxHeartbeats 1000000 in
set_option maxRecDepth 100000 in
theorem rnamed_any (s : ByteArray) (w : World) (hs : s.size ≤ 9223372036854775807) :
    Calls Tryz.prog 56 #[.string s] w fun e w' => e = .returned (.bool (isSg s)) ∧ Kp [] w w' := by
  have HNM := hide (refNamed_any s w hs)
  have HKW := hide (rKeyword_any s w)
  cases hnm : nameB s with
  | false =>
    have hsg : isSg s = false := by
      by_cases h0 : 0 < s.size
      · rw [sg_ask s h0, hnm]; rfl
      · unfold isSg
        rw [decide_eq_false h0]
        rfl
    rw [hsg]
    rw [hnm] at HNM
    clear hnm hsg HKW
    go_enter Tryz.func56, Tryz.ntmps56
    go_wp2_with fail
    refine (unhide HNM).mono ?_
    rintro e w1 ⟨rfl, rfl⟩
    clear HNM
    go_wp2
    go_ret
    exact ⟨rfl, Kp.refl _ _⟩
  | true =>
    have h0 : 0 < s.size := by
      unfold nameB at hnm
      simp only [Bool.and_eq_true, decide_eq_true_eq] at hnm
      omega
    have hsg := sg_ask s h0
    rw [hnm] at HNM hsg
    rw [Bool.true_and] at hsg
    rw [hsg]
    clear hsg hnm
    by_cases h97 : 97 ≤ s[0].toNat
    · have gi : ((97 : Int) ≤ (s[0].toNat : Int)) = True := eq_true (by omega)
      rw [decide_eq_true h97, Bool.true_and]
      clear h97
      generalize freeW s.data.toList = F at *
      cases F with
      | false =>
        go_enter Tryz.func56, Tryz.ntmps56
        go_wp2_with fail
        refine (unhide HNM).mono ?_
        rintro e w1 ⟨rfl, rfl⟩
        clear HNM
        go_wp2_with fail
        refine (unhide HKW).mono ?_
        rintro e w1 ⟨rfl, hk⟩
        clear HKW
        go_wp2
        go_ret
        exact ⟨rfl, hk⟩
      | true =>
        go_enter Tryz.func56, Tryz.ntmps56
        go_wp2_with fail
        refine (unhide HNM).mono ?_
        rintro e w1 ⟨rfl, rfl⟩
        clear HNM
        go_wp2_with fail
        refine (unhide HKW).mono ?_
        rintro e w1 ⟨rfl, hk⟩
        clear HKW
        go_wp2
        go_ret
        exact ⟨rfl, hk⟩
    · have gi : ((97 : Int) ≤ (s[0].toNat : Int)) = False := eq_false (by omega)
      rw [decide_eq_false h97, Bool.false_and]
      clear h97 HKW
      go_enter Tryz.func56, Tryz.ntmps56
      go_wp2_with fail
      refine (unhide HNM).mono ?_
      rintro e w1 ⟨rfl, rfl⟩
      clear HNM
      go_wp2
      go_ret
      exact ⟨rfl, Kp.refl _ _⟩
theorem hasN_snoc (l : List ByteArray) (a s : ByteArray) : hasN (l ++ [a]) s = (hasN l s || (a.toList == s.toList)) := by
  rw [Bool.eq_iff_iff, Bool.or_eq_true, hasN_iff, hasN_iff, List.mem_append, List.mem_singleton, toList_data, toList_data, beq_iff_eq, data_inj]
  constructor
  · rintro (h | h)
    · exact Or.inl h
    · exact Or.inr h.symm
  · rintro (h | h)
    · exact Or.inl h
    · exact Or.inr h.symm
set_option maxHeartbeats 1000000 in
set_option maxRecDepth 100000 in
theorem rahead_any (sa : Option Addr) (sc at_ : Nat) (l : List SR) (s : ByteArray) (w : World) (h : StsAt w sa l) (hl : l.length ≤ 9223372036854775807) (hat : at_ ≤ l.length) :
    Calls Tryz.prog 57 #[.slice sa l.length sc, .int .i64 (at_ : Int), .string s] w fun e w' => e = .returned (.bool (hasN (nmsOf ((stgs l).take at_)) s)) ∧ Kp [] w w' := by
  have HST := hide h
  have HNX : Hid (∀ k (hk : k < l.length), hasN (nmsOf ((stgs l).take (k + 1))) s = (hasN (nmsOf ((stgs l).take k)) s || (l[k].s.nm.toList == s.toList))) := hide (fun k hk => by
    have := nmsOf_next (l := stgs l) (k := k) (by rw [stgs_len]; exact hk)
    rw [stgs_at hk] at this
    rw [this, hasN_snoc])
  have HMO : Hid (∀ k, k ≤ at_ → hasN (nmsOf ((stgs l).take k)) s = true → hasN (nmsOf ((stgs l).take at_)) s = true) := hide (fun k hk hh => by
    rw [hasN_iff] at hh ⊢
    unfold nmsOf at hh ⊢
    obtain ⟨x, hx, e⟩ := List.mem_map.1 hh
    refine List.mem_map.2 ⟨x, ?_, e⟩
    rw [show (stgs l).take k = ((stgs l).take at_).take k by rw [List.take_take, show min k at_ = k by omega]] at hx
    exact List.mem_of_mem_take hx)
  have H00 : Hid (hasN (nmsOf ((stgs l).take 0)) s = false) := hide (by unfold nmsOf hasN; simp)
  clear h
  obtain ⟨n, hn⟩ : ∃ n, l.length = n := ⟨_, rfl⟩
  have HN := hide hn
  rw [hn] at hl hat ⊢
  clear hn
  obtain ⟨R, hR⟩ : ∃ R, hasN (nmsOf ((stgs l).take at_)) s = R := ⟨_, rfl⟩
  have HR := hide hR
  rw [hR]
  clear hR
  go_enter Tryz.func57, Tryz.ntmps57
  go_wp2_with fail
  go_loopw [7] (fun i wr => ∃ k : Nat, k ≤ at_ ∧ i = .int .i64 (k : Int) ∧ Hid (Kp [] w wr) ∧ Hid (hasN (nmsOf ((stgs l).take k)) s = false)) (fun i _ => at_ - (intOf i).toNat)
  case atStart => exact ⟨0, Nat.zero_le _, rfl, hide (Kp.refl _ _), H00⟩
  case round =>
    obtain ⟨k, hk, rfl, HK, HF⟩ := hrel
    by_cases hlt : k < at_
    · have hkx : k < l.length := by rw [unhide HN]; omega
      have hli : (k : Int) < (at_ : Int) := by omega
      obtain ⟨b, off, rfl, hbl, x0, -, -, -, -⟩ := ((unhide HST).kp (unhide HK)).at k hkx
      have hnx := unhide HNX k hkx
      rw [unhide HF, Bool.false_or] at hnx
      have hkn : k < n := by omega
      cases hB : (l[k].s.nm.toList == s.toList) with
      | true =>
        rw [hB] at hnx
        obtain rfl : R = true := by rw [← unhide HR]; exact unhide HMO (k + 1) (by omega) hnx
        clear HNX HMO HST HF hnx HR H00
        generalize l[k].s.nm = nm at *
        go_wp2
        go_ret
        exact ⟨rfl, by first | exact unhide HK | exact (unhide HK).trans (Kp.drew _) (by simp)⟩
      | false =>
        rw [hB] at hnx
        have HF2 := hide hnx
        clear HMO HF hnx HR H00
        generalize l[k].s.nm = nm at *
        go_wp2
        go_roundw
        case rel => exact ⟨k + 1, by omega, by go_num, by first | exact HK | exact hide ((unhide HK).trans (Kp.drew _) (by simp)), HF2⟩
        case measure => simp [intOf]; omega
    · obtain rfl : k = at_ := by omega
      obtain rfl : R = false := by rw [← unhide HR]; exact unhide HF
      clear HNX HMO HST HF HR H00
      go_wp2
      go_ret
      exact ⟨rfl, unhide HK⟩
end Go.Proofs.YtjijhefmbmdbeaaGreatDoor
namespace Go.Proofs.YtjijhefmbmdbeaaGreatDoor
open Go.RowKit Go.Shelf

end Go.Proofs.YtjijhefmbmdbeaaGreatDoor
namespace Go.Proofs.YtjijhefmbmdbeaaGreatDoor
open Go.RowKit Go.Shelf

theorem hasN_take {ns : List ByteArray} {k : Nat} (h : k < ns.length) (st : ByteArray) : hasN (ns.take (k + 1)) st = (hasN (ns.take k) st || (ns[k].toList == st.toList)) := by
  rw [Bool.eq_iff_iff, Bool.or_eq_true, hasN_iff, hasN_iff, List.take_succ_eq_append_getElem h, List.mem_append, List.mem_singleton, toList_data, toList_data, beq_iff_eq, data_inj]
  constructor
  · rintro (h | h)
    · exact Or.inl h
    · exact Or.inr h.symm
  · rintro (h | h)
    · exact Or.inl h
    · exact Or.inr h.symm
theorem hasN_none (st : ByteArray) : hasN ([] : List ByteArray) st = false := by
  unfold hasN
  simp
end Go.Proofs.YtjijhefmbmdbeaaGreatDoor
namespace Go.Proofs.YtjijhefmbmdbeaaGreatDoor
open Go.RowKit Go.Shelf

set_option maxHeartbeats 4000000 in
set_option maxRecDepth 100000 in
theorem rStages_any (ad : Option Addr) (cap : Nat) (xs : List Pt) (w : World) (hc : PtsAt w ad xs) (hs : ∀ p ∈ xs, p.s.size ≤ 140737488351232 ∧ p.st.size ≤ 9223372036854775807) :
    Calls Tryz.prog 59 #[.slice ad xs.length cap] w fun e w' => ∃ v, e = .returned (.tuple #[v, .int .i64 (if ckK xs = 0 then 110 else 0)]) ∧ OwnsW w.heap.size w' v (stgS xs) ∧ Below w.heap.size w w' := by
  have CK := hide (rCheck_any ad cap xs w hc hs)
  by_cases h0 : ckK xs = 0
  · have hs : stgS xs = [] := by unfold stgS; rw [if_pos h0]
    rw [hs]
    rw [h0, if_pos rfl] at CK
    rw [if_pos h0]
    clear hc h0 hs
    go_enter Tryz.func59, Tryz.ntmps59
    go_wp2_with fail
    refine (unhide CK).mono ?_
    rintro e w1 ⟨rfl, hb⟩
    clear CK
    go_wp2
    exact bodyPost_ret (results_tmp2 rfl _ _ _) rfl ⟨_, rfl, OwnsW.nil _ _, hb⟩
  · have hsS : stgS xs = stgL xs := by unfold stgS; rw [if_neg h0]
    rw [hsS]
    rw [if_neg h0] at CK
    rw [if_neg h0]
    obtain ⟨_, _, _, _, _, hx, _⟩ := ckK_leaves h0
    have HC := hide hc
    have HTK := hide (fun k (hk : k < xs.length) => stgL_take xs k hk)
    have HLN := hide (fun k => Nat.le_trans (stgL_len (xs.take k)) (by rw [List.length_take]; omega : (xs.take k).length ≤ 200))
    have HEN : Hid (stgL (xs.take xs.length) = stgL xs) := hide (by rw [List.take_length])
    clear hc hs h0 hsS
    generalize ckK xs = ck at *
    obtain ⟨n, hn⟩ : ∃ n, xs.length = n := ⟨_, rfl⟩
    have HN := hide hn
    rw [hn] at hx CK HEN ⊢
    clear hn
    go_enter Tryz.func59, Tryz.ntmps59
    go_wp2_with fail
    refine (unhide CK).mono ?_
    rintro e w1 ⟨rfl, hb1⟩
    have HB1 := hide hb1
    clear CK hb1
    go_wp2_with fail
    go_loopw [6, 7] (fun v i wr => ∃ (k : Nat) (a : Option Addr) (c NL : Nat), k ≤ n ∧ i = .int .i64 (k : Int) ∧ v = .slice a NL c ∧ NL = (stgL (xs.take k)).length ∧ Hid (OwnsW w.heap.size wr (.slice a NL c) (stgL (xs.take k))) ∧ Below w.heap.size w wr) (fun _ i _ => n - (intOf i).toNat)
    case atStart => exact ⟨0, none, 0, 0, Nat.zero_le _, rfl, rfl, rfl, hide (OwnsW.nil _ _), unhide HB1⟩
    case round =>
      obtain ⟨k, a, c, NL, hk, rfl, rfl, hNL, HO, hb⟩ := hrel
      by_cases hlt : k < n
      · have hkx : k < xs.length := by rw [unhide HN]; exact hlt
        have hli : (k : Int) < (n : Int) := by omega
        have HB := hide hb
        obtain ⟨b, off, rfl, hbl, x0, x1, x2, x3, x4⟩ := ((unhide HC).kp (Kp.ofBelow hb)).at k hkx
        have HPT : Hid (∀ W, Kp [] wr W → W.cell? ⟨b, off + k * 5 + 3, none⟩ = some (.string xs[k].st)) := hide (fun W hkp => hkp.cell x3 (by simp))
        have HNX := hide (unhide HTK k hkx)
        have hl2 := unhide HLN k
        unfold stgA at HNX
        clear HTK HLN HEN HC HB1 x0 x1 x2 x4 hb
        generalize xs[k].st = st at *
        generalize stgL (xs.take k) = L at *
        obtain ⟨a', c', hv, hnm, _⟩ := (unhide HO).at
        injection hv with e1 e2 e3
        subst e1 e3
        have HNM := hide hnm
        have HNL := hide hNL
        have hNLb : NL ≤ 200 := by omega
        have HES := hide (emp_toList st)
        have HF0 : Hid ((emptyB st || hasN (L.take 0) st) = emptyB st) := hide (by rw [List.take_zero, hasN_none, Bool.or_false])
        have HFS : Hid (∀ j (hj : j < L.length), (emptyB st || hasN (L.take (j + 1)) st) = ((emptyB st || hasN (L.take j) st) || (L[j].toList == st.toList))) := hide (fun j hj => by rw [hasN_take hj, Bool.or_assoc])
        have HFM : Hid ((emptyB st || hasN (L.take NL) st) = (emptyB st || hasN L st)) := hide (by rw [unhide HNL, List.take_length])
        have hLl : L.length ≤ 200 := hl2
        clear hnm hNL e2 hl2
        go_wp2_with fail
        rw [unhide HES]
        go_loopw [8, 9] (fun f i wx => ∃ j : Nat, j ≤ NL ∧ i = .int .i64 (j : Int) ∧ f = .bool (emptyB st || hasN (L.take j) st) ∧ Kp [] wr wx) (fun _ i _ => NL - (intOf i).toNat)
        case atStart => exact ⟨0, Nat.zero_le _, rfl, by rw [unhide HF0], Kp.refl _ _⟩
        case round =>
          obtain ⟨j, hj, rfl, rfl, kpx⟩ := hrel
          by_cases hjl : j < NL
          · have hjn : j < L.length := by rw [← unhide HNL]; exact hjl
            have hne : L ≠ [] := by rintro e; rw [e] at hjn; simp at hjn
            obtain ⟨b2, o2, rfl, _, hc2⟩ := ((unhide HNM).kp kpx (by simp)) hne
            have cj := hc2 j hjn
            have c3 := unhide HPT _ kpx
            have hji : (j : Int) < (NL : Int) := by omega
            have HNF := hide (unhide HFS j hjn)
            have HKX := hide kpx
            clear hc2 hne kpx x3 HF0 HFM HNX HO HB HFS HES HNM
            generalize L[j] = nm at *
            obtain ⟨F0, hF0⟩ : ∃ F0, (emptyB st || hasN (L.take j) st) = F0 := ⟨_, rfl⟩
            rw [hF0] at HNF ⊢
            clear hF0
            cases F0 with
            | true =>
              rw [Bool.true_or] at HNF
              go_wp2_with fail
              go_quiet (fail)
              go_wp2
              go_roundw
              case rel => exact ⟨j + 1, by omega, by go_num, by rw [unhide HNF], (unhide HKX).trans (Kp.drewQ _ _) (by simp)⟩
              case measure => simp [intOf]; omega
            | false =>
              rw [Bool.false_or] at HNF
              go_wp2_with fail
              go_region
              go_wp2
              go_roundw
              case rel => exact ⟨j + 1, by omega, by go_num, by rw [unhide HNF], (unhide HKX).trans (Kp.drew _) (by simp)⟩
              case measure => simp [intOf]; omega
          · obtain rfl : j = NL := by omega
            rw [unhide HFM]
            have HKX := hide kpx
            have c3 := unhide HPT _ kpx
            have HBX := hide ((unhide HB).trans (kpx.below (unhide HB).size (by simp)))
            have HOX := hide ((unhide HO).kp kpx)
            clear kpx x3 HF0 HFM HFS HPT HB HO HKX HNM HES
            obtain ⟨F0, hF0⟩ : ∃ F0, (emptyB st || hasN L st) = F0 := ⟨_, rfl⟩
            rw [hF0] at HNX ⊢
            clear hF0
            cases F0 with
            | true =>
              rw [if_pos rfl] at HNX
              go_wp2
              go_roundw
              case rel => exact ⟨k + 1, a, c, j, by omega, by go_num, rfl, by rw [unhide HNX]; exact unhide HNL, by rw [unhide HNX]; exact HOX, unhide HBX⟩
              case measure => simp [intOf]; omega
            | false =>
              rw [if_neg (by simp)] at HNX
              have k6 := Kp.alloc wr (.cells #[.string st] 9)
              have hb6 := (unhide HBX).trans (k6.below (unhide HBX).size (by simp))
              have ho6 := (unhide HOX).kp k6
              obtain ⟨g', cap', w', hrun, hO', hbw, _⟩ := OwnsW.app (c := 1) ho6 hb6.size st (g := wr.heap.size) ((CBox.new wr _ _).cell rfl) (by omega) 68
              rw [← unhide HNL] at hrun hO'
              have HRUN := hide hrun
              have HO' := hide hO'
              have HBW := hide (hb6.trans hbw)
              clear hrun hO' hbw hb6 ho6 k6 HBX HOX
              go_wp2_with (at_builtin; refine wpList_app_run rfl _ _ _ rfl rfl rfl (unhide HRUN) ?_)
              go_roundw
              case rel => exact ⟨k + 1, _, cap', j + 1, by omega, by go_num, rfl, by rw [unhide HNX, List.length_append, ← unhide HNL]; rfl, by rw [unhide HNX]; exact HO', unhide HBW⟩
              case measure => simp [intOf]; omega
      · obtain rfl : k = n := by omega
        have HE := unhide HEN
        rw [HE] at HO
        clear HE HEN HTK HLN HC HB1 hNL
        go_wp2
        exact bodyPost_ret (results_tmp2 rfl _ _ _) rfl ⟨_, rfl, unhide HO, hb⟩
end Go.Proofs.YtjijhefmbmdbeaaGreatDoor
namespace Go.Proofs.YtjijhefmbmdbeaaGreatDoor
open Go.RowKit Go.Shelf

set_option maxHeartbeats 4000000 in
set_option maxRecDepth 100000 in
theorem rmay_any (sa : Option Addr) (sc at_ : Nat) (l : List SR) (w : World) (h : StsAt w sa l) (hl : l.length ≤ 9223372036854775807) (hat : at_ < l.length) (hok : ∀ r ∈ l, r.s.ok) (hsz : ∀ r ∈ l, ∀ p ∈ r.s.cd, p.s.size ≤ 140737488351232 ∧ p.st.size ≤ 140737488351232) :
    Calls Tryz.prog 38 #[.slice sa l.length sc, .int .i64 (at_ : Int)] w fun e w' => e = .returned (.bool (stOk l[at_].s (nmsOf ((stgs l).take at_)))) ∧ Kp [] w w' := by
  obtain ⟨b, off, rfl, hbl, x0, x1, x2, x3, hpts⟩ := h.at at_ hat
  have hok1 := hok _ (List.getElem_mem hat)
  have hsz1 := hsz _ (List.getElem_mem hat)
  have HAH := hide (fun s W (hk : Kp [] w W) => rahead_any (some ⟨b, off, none⟩) sc at_ l s W (h.kp hk) hl (by omega))
  have HNMD := hide (fun W => rnamed_any l[at_].s.nm W hok1.1)
  have hnl : (nmsOf ((stgs l).take at_)).length = at_ := by rw [nmsOf_len, List.length_take, stgs_len]; omega
  have k0 : Kp [] w (w.alloc (.cells (stV l[at_].s l[at_].ad l[at_].c) 54)) := Kp.alloc _ _
  have bx := CBox.new w (stV l[at_].s l[at_].ad l[at_].c) 54
  have HCK : Hid (∀ W, Kp [] w W → Calls Tryz.prog 58 #[.slice l[at_].ad l[at_].s.cd.length l[at_].c] W fun e w' => e = .returned (.tuple #[.int .i64 (ckK l[at_].s.cd), .int .i64 (if ckK l[at_].s.cd = 0 then 110 else 0)]) ∧ Below W.heap.size W w') := hide (fun W hk => rCheck_any l[at_].ad l[at_].c l[at_].s.cd W (hpts.kp hk) (fun p hp => ⟨by have := (hsz1 p hp).1; omega, by have := (hsz1 p hp).2; omega⟩))
  have HST : Hid (∀ W, Kp [] w W → Calls Tryz.prog 59 #[.slice l[at_].ad l[at_].s.cd.length l[at_].c] W fun e w' => ∃ a q, e = .returned (.tuple #[.slice a (stgS l[at_].s.cd).length q, .int .i64 (if ckK l[at_].s.cd = 0 then 110 else 0)]) ∧ NmsAt w' a (stgS l[at_].s.cd) ∧ Below W.heap.size W w') := hide (fun W hk => (rStages_any l[at_].ad l[at_].c l[at_].s.cd W (hpts.kp hk) (fun p hp => ⟨by have := (hsz1 p hp).1; omega, by have := (hsz1 p hp).2; omega⟩)).mono fun e w' ⟨v, h1, h2, h3⟩ => by
    obtain ⟨a, q, e1, h4, _⟩ := h2.at
    subst e1
    exact ⟨a, q, h1, h4, h3⟩)
  have hrs : stOk l[at_].s (nmsOf ((stgs l).take at_)) = ((isSg l[at_].s.nm && (!hasN (nmsOf ((stgs l).take at_)) l[at_].s.nm && hwOk l[at_].s.hw at_)) && (decide (ckK l[at_].s.cd = 3) && (stgS l[at_].s.cd).all (hasN (nmsOf ((stgs l).take at_))))) := by
    unfold stOk cdOk
    rw [hnl, Bool.and_assoc, Bool.and_assoc]
  rw [hrs]
  have hsl := stgS_len l[at_].s.cd
  have HBX : Hid (∀ W, Kp [] (w.alloc (.cells (stV l[at_].s l[at_].ad l[at_].c) 54)) W → (W.cell? ⟨w.heap.size, 0, none⟩ = some (.string l[at_].s.nm) ∧ W.cell? ⟨w.heap.size, 1, none⟩ = some (.int .i64 l[at_].s.hw) ∧ W.cell? ⟨w.heap.size, 3, none⟩ = some (.slice l[at_].ad l[at_].s.cd.length l[at_].c)) ∧ Hid (Kp [] w W) ∧ w.heap.size < W.heap.size) := hide (fun W hk => ⟨⟨(bx.kp hk (by simp)).cell rfl, (bx.kp hk (by simp)).cell rfl, (bx.kp hk (by simp)).cell rfl⟩, hide (k0.trans hk (by simp)), by have := hk.size; simp at this; omega⟩)
  obtain ⟨n, hn⟩ : ∃ n, l.length = n := ⟨_, rfl⟩
  rw [hn] at hat hl HAH ⊢
  clear hrs hnl hok1 hsz1 hpts h hok hsz k0 bx
  generalize l[at_].s = s at *
  generalize l[at_].ad = ad at *
  generalize l[at_].c = cc at *
  generalize nmsOf ((stgs l).take at_) = AH at *
  obtain ⟨nm, hw, mn, cd⟩ := s
  unfold stV at HBX
  dsimp only at x0 x1 x2 x3 HAH HNMD HCK HST HBX hsl ⊢
  generalize stgS cd = SS at *
  generalize ckK cd = CK at *
  generalize cd.length = CL at *
  obtain ⟨X, hX⟩ : ∃ X, (isSg nm && (!hasN AH nm && hwOk hw at_)) = X := ⟨_, rfl⟩
  rw [hX]
  have HX := hide hX
  obtain ⟨R, hR⟩ : ∃ R, (X && (decide (CK = 3) && SS.all (hasN AH))) = R := ⟨_, rfl⟩
  rw [hR]
  have HR := hide hR
  clear hX hn hR
  have hai : ((at_ : Int) < (n : Int)) := by omega
  go_enter Tryz.func38, Tryz.ntmps38
  go_upto_region 2 with fail
  go_cut [43] (fun v wc => v = .bool (!X) ∧ Hid (Kp [] (w.alloc (.cells #[.string nm, .int .i64 hw, .bool mn, .slice ad CL cc] 54)) wc))
  case first =>
    obtain ⟨⟨y0, y1, y3⟩, HKW, hlt⟩ := unhide HBX _ (Kp.refl _ _)
    have ND := hide (unhide HNMD (w.alloc (.cells #[.string nm, .int .i64 hw, .bool mn, .slice ad CL cc] 54)))
    cases hsg : isSg nm with
    | false =>
      obtain rfl : X = false := by rw [← unhide HX, hsg]; rfl
      rw [hsg] at ND
      clear HX hsg HAH HCK HST HNMD
      go_wp2_with fail
      refine (unhide ND).mono ?_
      rintro e w1 ⟨rfl, hk1⟩
      have HK1 := hide hk1
      clear ND hk1
      go_wp2
      go_meet
      exact ⟨rfl, HK1⟩
    | true =>
      rw [hsg] at ND
      cases hhn : hasN AH nm with
      | true =>
        obtain rfl : X = false := by rw [← unhide HX, hsg, hhn]; rfl
        have HA2 := hide (fun W hk => unhide HAH nm W hk)
        rw [hhn] at HA2
        clear HX hsg hhn HAH HCK HST HNMD
        go_wp2_with fail
        refine (unhide ND).mono ?_
        rintro e w1 ⟨rfl, hk1⟩
        have HK1 := hide hk1
        obtain ⟨⟨z0, z1, z3⟩, HKW1, hlt1⟩ := unhide HBX _ hk1
        have A3 := hide (unhide HA2 _ (unhide HKW1))
        clear ND hk1 HA2 y0 y1 y3
        go_wp2_with fail
        refine (unhide A3).mono ?_
        rintro e w2 ⟨rfl, hk2⟩
        have HK2 := hide ((unhide HK1).trans hk2 (by simp))
        clear A3 hk2 z0 z1 z3
        go_wp2
        go_meet
        exact ⟨rfl, HK2⟩
      | false =>
        have HXW : Hid (X = hwOk hw at_) := hide (by rw [← unhide HX, hsg, hhn]; rfl)
        have HA2 := hide (fun W hk => unhide HAH nm W hk)
        rw [hhn] at HA2
        clear HX hsg hhn HAH HCK HST HNMD
        go_wp2_with fail
        refine (unhide ND).mono ?_
        rintro e w1 ⟨rfl, hk1⟩
        have HK1 := hide hk1
        obtain ⟨⟨z0, z1, z3⟩, HKW1, hlt1⟩ := unhide HBX _ hk1
        have A3 := hide (unhide HA2 _ (unhide HKW1))
        clear ND hk1 HA2 y0 y1 y3
        go_wp2_with fail
        refine (unhide A3).mono ?_
        rintro e w2 ⟨rfl, hk2⟩
        have HK2 := hide ((unhide HK1).trans hk2 (by simp))
        obtain ⟨⟨t0, t1, t3⟩, _, hlt2⟩ := unhide HBX _ (unhide HK2)
        clear A3 hk2 z0 z1 z3 HK1
        have hxw := unhide HXW
        unfold hwOk at hxw
        by_cases h0 : hw < 0
        · have g0 : (hw < 0) = True := eq_true h0
          rw [decide_eq_false (by omega), Bool.false_and] at hxw
          subst hxw
          clear HXW
          go_wp2
          go_meet
          exact ⟨rfl, HK2⟩
        · have g0 : (hw < 0) = False := eq_false h0
          rw [decide_eq_true (by omega : 0 ≤ hw), Bool.true_and] at hxw
          by_cases h3 : 3 < hw
          · have g3 : (3 < hw) = True := eq_true h3
            rw [decide_eq_false (by omega), Bool.false_and] at hxw
            subst hxw
            clear HXW
            go_wp2
            go_meet
            exact ⟨rfl, HK2⟩
          · have g3 : (3 < hw) = False := eq_false h3
            rw [decide_eq_true (by omega : hw ≤ 3), Bool.true_and] at hxw
            have e1 : (hw == 0) = decide (hw = 0) := by by_cases h : hw = 0 <;> simp [h]
            have e2 : ((at_ : Int) == 0) = decide (at_ = 0) := by by_cases h : at_ = 0 <;> simp [h]
            generalize decide (hw = 0) = D1 at *
            generalize decide (at_ = 0) = D2 at *
            subst hxw
            clear HXW
            cases D1 <;> cases D2
            all_goals
              go_wp2
              go_meet
              exact ⟨rfl, HK2⟩
  case rest =>
    obtain ⟨rfl, HKC⟩ := hcut
    obtain ⟨⟨y0, y1, y3⟩, HKW, hlt⟩ := unhide HBX _ (unhide HKC)
    cases X with
    | false =>
      obtain rfl : R = false := by rw [← unhide HR]; rfl
      clear HAH HCK HST HNMD HX HR
      go_wp2
      go_ret
      exact ⟨rfl, unhide HKW⟩
    | true =>
      have C := hide (unhide HCK wc (unhide HKW))
      by_cases h3 : CK = 3
      · subst h3
        rw [if_neg (by decide)] at C
        have HRA : Hid (SS.all (hasN AH) = R) := hide (by rw [← unhide HR]; simp)
        have HNO : Hid (∀ k (hk : k < SS.length), hasN AH SS[k] = false → R = false) := hide (fun k hk hh => by
          rw [← unhide HRA, Bool.eq_false_iff]
          intro h
          rw [List.all_eq_true] at h
          have := h _ (List.getElem_mem hk)
          rw [hh] at this
          cases this)
        have HYES : Hid ((∀ k (hk : k < SS.length), hasN AH SS[k] = true) → R = true) := hide (fun h => by
          rw [← unhide HRA, List.all_eq_true]
          intro x hx
          obtain ⟨k, hk, rfl⟩ := List.mem_iff_getElem.1 hx
          exact h k hk)
        clear HR HRA HNMD HX HCK
        obtain ⟨m, hm⟩ : ∃ m, SS.length = m := ⟨_, rfl⟩
        have HM := hide hm
        rw [hm] at HST hsl
        clear hm
        go_wp2_with fail
        refine (unhide C).mono ?_
        rintro e w1 ⟨rfl, hb1⟩
        have HK1 := hide ((unhide HKC).trans (Kp.ofBelow hb1) (by simp))
        obtain ⟨⟨z0, z1, z3⟩, HKW1, hlt1⟩ := unhide HBX _ (unhide HK1)
        have S3 := hide (unhide HST _ (unhide HKW1))
        clear C hb1 HST y0 y1 y3
        go_wp2_with fail
        refine (unhide S3).mono ?_
        rintro e w2 ⟨a, q, rfl, hnm, hb2⟩
        have HNA := hide hnm
        have HK2 := hide ((unhide HKW1).trans (Kp.ofBelow hb2) (by simp))
        have HK12 := hide (Kp.ofBelow hb2)
        clear S3 hb2 hnm z0 z1 z3
        go_wp2_with fail
        go_loopw [10] (fun i wr => ∃ k : Nat, k ≤ m ∧ i = .int .i64 (k : Int) ∧ Hid (Kp [] w2 wr) ∧ Hid (∀ j (hj : j < SS.length), j < k → hasN AH SS[j] = true)) (fun i _ => m - (intOf i).toNat)
        case atStart => exact ⟨0, Nat.zero_le _, rfl, hide (Kp.refl _ _), hide (fun j _ h => absurd h (Nat.not_lt_zero _))⟩
        case round =>
          obtain ⟨k, hk, rfl, HKR, HAL⟩ := hrel
          by_cases hkm : k < m
          · have hks : k < SS.length := by rw [unhide HM]; exact hkm
            have hki : (k : Int) < (m : Int) := by omega
            obtain ⟨b5, o5, rfl, hb5, hc5⟩ := ((unhide HNA).kp (unhide HKR) (by simp)) (fun e => by rw [e] at hks; simp at hks)
            have v0 := hc5 k hks
            have A3 := hide (unhide HAH SS[k] wr ((unhide HK2).trans (unhide HKR) (by simp)))
            have HNK := hide (unhide HNO k hks)
            have HAL2 : Hid (hasN AH SS[k] = true → ∀ j (hj : j < SS.length), j < k + 1 → hasN AH SS[j] = true) := hide (fun h j hj hjk => by
              rcases Nat.lt_or_ge j k with h1 | h1
              · exact unhide HAL j hj h1
              · obtain rfl : j = k := by omega
                exact h)
            clear hc5 HNO HYES HAH HAL
            generalize SS[k] = S0 at *
            generalize hasN AH S0 = B at *
            cases B with
            | false =>
              obtain rfl : R = false := unhide HNK rfl
              clear HNK HAL2
              go_wp2_with fail
              refine (unhide A3).mono ?_
              rintro e w5 ⟨rfl, hk5⟩
              have HK5 := hide (((unhide HK2).trans (unhide HKR) (by simp)).trans hk5 (by simp))
              clear A3 hk5
              go_wp2
              go_ret
              exact ⟨rfl, unhide HK5⟩
            | true =>
              have HAL3 := hide (unhide HAL2 rfl)
              clear HNK HAL2
              go_wp2_with fail
              refine (unhide A3).mono ?_
              rintro e w5 ⟨rfl, hk5⟩
              have HK5 := hide ((unhide HKR).trans hk5 (by simp))
              clear A3 hk5
              go_wp2
              go_roundw
              case rel => exact ⟨k + 1, by omega, by go_num, HK5, HAL3⟩
              case measure => simp [intOf]; omega
          · obtain rfl : k = m := by omega
            obtain rfl : R = true := unhide HYES (fun j hj => unhide HAL j hj (by rw [← unhide HM]; exact hj))
            have HKE := hide ((unhide HK2).trans (unhide HKR) (by simp))
            clear HNO HYES HAH HAL HNA
            go_wp2
            go_ret
            exact ⟨rfl, unhide HKE⟩
      · obtain rfl : R = false := by rw [← unhide HR, decide_eq_false h3]; rfl
        clear HR
        have g3 : (CK == 3) = false := beq_eq_false_iff_ne.2 h3
        have g4 : (CK = 3) = False := eq_false h3
        by_cases hz : CK = 0
        · subst hz
          rw [if_pos rfl] at C
          clear HAH HCK HST HNMD HX
          go_wp2_with fail
          refine (unhide C).mono ?_
          rintro e w1 ⟨rfl, hb1⟩
          have HK1 := hide ((unhide HKW).trans (Kp.ofBelow hb1) (by simp))
          clear C hb1
          go_wp2
          go_ret
          exact ⟨rfl, unhide HK1⟩
        · rw [if_neg hz] at C
          clear HAH HCK HST HNMD HX
          go_wp2_with fail
          refine (unhide C).mono ?_
          rintro e w1 ⟨rfl, hb1⟩
          have HK1 := hide ((unhide HKW).trans (Kp.ofBelow hb1) (by simp))
          clear C hb1
          go_wp2
          go_ret
          exact ⟨rfl, unhide HK1⟩
end Go.Proofs.YtjijhefmbmdbeaaGreatDoor
