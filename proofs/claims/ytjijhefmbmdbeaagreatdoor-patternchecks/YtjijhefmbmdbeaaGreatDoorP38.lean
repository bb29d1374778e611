/-
  The document's answer for patterns: a stage's name; whether a name stands ahead.
  A pair of results of which the first lies in cells. Of no program.
  Small facts that the document's walks share.
  Names that are among others, as far as a place.
  The document's Stages is the plain function.
-/
import Derived.Test.YtjijhefmbmdbeaaGreatDoorP37
import Derived.Test.YtjijhefmbmdbeaaGreatDoorP28
import Derived.Test.YtjijhefmbmdbeaaGreatDoorP05
import Derived.Laws.ResultCell
import Derived.Test.YtjijhefmbmdbeaaGreatDoorP06
import Derived.Test.YtjijhefmbmdbeaaGreatDoorP26
namespace Go.Proofs.YtjijhefmbmdbeaaGreatDoor
open Go.RowKit Go.Shelf

set_option maxHeartbeats 1000000 in
set_option maxRecDepth 100000 in
theorem rnamed_any (s : ByteArray) (w : World) (hs : s.size ≤ 9223372036854775807) :
    Calls Tryz.prog 56 #[.string s] w fun e w' => e = .returned (.bool (isSg s)) ∧ Kp [] w w' := by
  have HNM := hide (refNamed_any s w hs)
  have HKW := hide (rKeyword_any s w)
  cases hnm : nameB s with
  | false =>
    have hsg : isSg s = false := by
      by_cases h0 : 0 < s.size
      · rw [sg_ask s h0, hnm]; rfl
      · unfold isSg
        rw [decide_eq_false h0]
        rfl
    rw [hsg]
    rw [hnm] at HNM
    clear hnm hsg HKW
    go_enter Tryz.func56, Tryz.ntmps56
    go_wp2_with fail
    refine (unhide HNM).mono ?_
    rintro e w1 ⟨rfl, rfl⟩
    clear HNM
    go_wp2
    go_ret
    exact ⟨rfl, Kp.refl _ _⟩
  | true =>
    have h0 : 0 < s.size := by
      unfold nameB at hnm
      simp only [Bool.and_eq_true, decide_eq_true_eq] at hnm
      omega
    have hsg := sg_ask s h0
    rw [hnm] at HNM hsg
    rw [Bool.true_and] at hsg
    rw [hsg]
    clear hsg hnm
    by_cases h97 : 97 ≤ s[0].toNat
    · have gi : ((97 : Int) ≤ (s[0].toNat : Int)) = True := eq_true (by omega)
      rw [decide_eq_true h97, Bool.true_and]
      clear h97
      generalize freeW s.data.toList = F at *
      cases F with
      | false =>
        go_enter Tryz.func56, Tryz.ntmps56
        go_wp2_with fail
        refine (unhide HNM).mono ?_
        rintro e w1 ⟨rfl, rfl⟩
        clear HNM
        go_wp2_with fail
        refine (unhide HKW).mono ?_
        rintro e w1 ⟨rfl, hk⟩
        clear HKW
        go_wp2
        go_ret
        exact ⟨rfl, hk⟩
      | true =>
        go_enter Tryz.func56, Tryz.ntmps56
        go_wp2_with fail
        refine (unhide HNM).mono ?_
        rintro e w1 ⟨rfl, rfl⟩
        clear HNM
        go_wp2_with fail
        refine (unhide HKW).mono ?_
        rintro e w1 ⟨rfl, hk⟩
        clear HKW
        go_wp2
        go_ret
        exact ⟨rfl, hk⟩
    · have gi : ((97 : Int) ≤ (s[0].toNat : Int)) = False := eq_false (by omega)
      rw [decide_eq_false h97, Bool.false_and]
      clear h97 HKW
      go_enter Tryz.func56, Tryz.ntmps56
      go_wp2_with fail
      refine (unhide HNM).mono ?_
      rintro e w1 ⟨rfl, rfl⟩
      clear HNM
      go_wp2
      go_ret
      exact ⟨rfl, Kp.refl _ _⟩
theorem hasN_snoc (l : List ByteArray) (a s : ByteArray) : hasN (l ++ [a]) s = (hasN l s || (a.toList == s.toList)) := by
  rw [Bool.eq_iff_iff, Bool.or_eq_true, hasN_iff, hasN_iff, List.mem_append, List.mem_singleton, toList_data, toList_data, beq_iff_eq, data_inj]
  constructor
  · rintro (h | h)
    · exact Or.inl h
    · exact Or.inr h.symm
  · rintro (h | h)
    · exact Or.inl h
    · exact Or.inr h.symm
set_option maxHeartbeats 1000000 in
set_option maxRecDepth 100000 in
theorem rahead_any (sa : Option Addr) (sc at_ : Nat) (l : List SR) (s : ByteArray) (w : World) (h : StsAt w sa l) (hl : l.length ≤ 9223372036854775807) (hat : at_ ≤ l.length) :
    Calls Tryz.prog 57 #[.slice sa l.length sc, .int .i64 (at_ : Int), .string s] w fun e w' => e = .returned (.bool (hasN (nmsOf ((stgs l).take at_)) s)) ∧ Kp [] w w' := by
  have HST := hide h
  have HNX : Hid (∀ k (hk : k < l.length), hasN (nmsOf ((stgs l).take (k + 1))) s = (hasN (nmsOf ((stgs l).take k)) s || (l[k].s.nm.toList == s.toList))) := hide (fun k hk => by
    have := nmsOf_next (l := stgs l) (k := k) (by rw [stgs_len]; exact hk)
    rw [stgs_at hk] at this
    rw [this, hasN_snoc])
  have HMO : Hid (∀ k, k ≤ at_ → hasN (nmsOf ((stgs l).take k)) s = true → hasN (nmsOf ((stgs l).take at_)) s = true) := hide (fun k hk hh => by
    rw [hasN_iff] at hh ⊢
    unfold nmsOf at hh ⊢
    obtain ⟨x, hx, e⟩ := List.mem_map.1 hh
    refine List.mem_map.2 ⟨x, ?_, e⟩
    rw [show (stgs l).take k = ((stgs l).take at_).take k by rw [List.take_take, show min k at_ = k by omega]] at hx
    exact List.mem_of_mem_take hx)
  have H00 : Hid (hasN (nmsOf ((stgs l).take 0)) s = false) := hide (by unfold nmsOf hasN; simp)
  clear h
  obtain ⟨n, hn⟩ : ∃ n, l.length = n := ⟨_, rfl⟩
  have HN := hide hn
  rw [hn] at hl hat ⊢
  clear hn
  obtain ⟨R, hR⟩ : ∃ R, hasN (nmsOf ((stgs l).take at_)) s = R := ⟨_, rfl⟩
  have HR := hide hR
  rw [hR]
  clear hR
  go_enter Tryz.func57, Tryz.ntmps57
  go_wp2_with fail
  go_loopw [7] (fun i wr => ∃ k : Nat, k ≤ at_ ∧ i = .int .i64 (k : Int) ∧ Hid (Kp [] w wr) ∧ Hid (hasN (nmsOf ((stgs l).take k)) s = false)) (fun i _ => at_ - (intOf i).toNat)
  case atStart => exact ⟨0, Nat.zero_le _, rfl, hide (Kp.refl _ _), H00⟩
  case round =>
    obtain ⟨k, hk, rfl, HK, HF⟩ := hrel
    by_cases hlt : k < at_
    · have hkx : k < l.length := by rw [unhide HN]; omega
      have hli : (k : Int) < (at_ : Int) := by omega
      obtain ⟨b, off, rfl, hbl, x0, -, -, -, -⟩ := ((unhide HST).kp (unhide HK)).at k hkx
      have hnx := unhide HNX k hkx
      rw [unhide HF, Bool.false_or] at hnx
      have hkn : k < n := by omega
      cases hB : (l[k].s.nm.toList == s.toList) with
      | true =>
        rw [hB] at hnx
        obtain rfl : R = true := by rw [← unhide HR]; exact unhide HMO (k + 1) (by omega) hnx
        clear HNX HMO HST HF hnx HR H00
        generalize l[k].s.nm = nm at *
        go_wp2
        go_ret
        exact ⟨rfl, by first | exact unhide HK | exact (unhide HK).trans (Kp.drew _) (by simp)⟩
      | false =>
        rw [hB] at hnx
        have HF2 := hide hnx
        clear HMO HF hnx HR H00
        generalize l[k].s.nm = nm at *
        go_wp2
        go_roundw
        case rel => exact ⟨k + 1, by omega, by go_num, by first | exact HK | exact hide ((unhide HK).trans (Kp.drew _) (by simp)), HF2⟩
        case measure => simp [intOf]; omega
    · obtain rfl : k = at_ := by omega
      obtain rfl : R = false := by rw [← unhide HR]; exact unhide HF
      clear HNX HMO HST HF HR H00
      go_wp2
      go_ret
      exact ⟨rfl, unhide HK⟩
end Go.Proofs.YtjijhefmbmdbeaaGreatDoor
namespace Go.Proofs.YtjijhefmbmdbeaaGreatDoor
open Go.RowKit

end Go.Proofs.YtjijhefmbmdbeaaGreatDoor
namespace Go.Proofs.YtjijhefmbmdbeaaGreatDoor
open Go.RowKit Go.Shelf

theorem mid_get (pre : List Pt) (p : Pt) (r xs : List Pt) (h : xs = pre ++ p :: r) : ∃ hl : pre.length < xs.length, xs[pre.length] = p := by
  subst h
  exact ⟨by simp, by simp⟩
end Go.Proofs.YtjijhefmbmdbeaaGreatDoor
namespace Go.Proofs.YtjijhefmbmdbeaaGreatDoor
open Go.RowKit Go.Shelf

theorem hasN_take {ns : List ByteArray} {k : Nat} (h : k < ns.length) (st : ByteArray) : hasN (ns.take (k + 1)) st = (hasN (ns.take k) st || (ns[k].toList == st.toList)) := by
  rw [Bool.eq_iff_iff, Bool.or_eq_true, hasN_iff, hasN_iff, List.take_succ_eq_append_getElem h, List.mem_append, List.mem_singleton, toList_data, toList_data, beq_iff_eq, data_inj]
  constructor
  · rintro (h | h)
    · exact Or.inl h
    · exact Or.inr h.symm
  · rintro (h | h)
    · exact Or.inl h
    · exact Or.inr h.symm
theorem hasN_none (st : ByteArray) : hasN ([] : List ByteArray) st = false := by
  unfold hasN
  simp
end Go.Proofs.YtjijhefmbmdbeaaGreatDoor
namespace Go.Proofs.YtjijhefmbmdbeaaGreatDoor
open Go.RowKit Go.Shelf

set_option maxHeartbeats 4000000 in
set_option maxRecDepth 100000 in
theorem rStages_any (ad : Option Addr) (cap : Nat) (xs : List Pt) (w : World) (hc : PtsAt w ad xs) (hs : ∀ p ∈ xs, p.s.size ≤ 140737488351232 ∧ p.st.size ≤ 9223372036854775807) :
    Calls Tryz.prog 59 #[.slice ad xs.length cap] w fun e w' => ∃ v, e = .returned (.tuple #[v, .int .i64 (if ckK xs = 0 then 110 else 0)]) ∧ OwnsW w.heap.size w' v (stgS xs) ∧ Below w.heap.size w w' := by
  have CK := hide (rCheck_any ad cap xs w hc hs)
  by_cases h0 : ckK xs = 0
  · have hs : stgS xs = [] := by unfold stgS; rw [if_pos h0]
    rw [hs]
    rw [h0, if_pos rfl] at CK
    rw [if_pos h0]
    clear hc h0 hs
    go_enter Tryz.func59, Tryz.ntmps59
    go_wp2_with fail
    refine (unhide CK).mono ?_
    rintro e w1 ⟨rfl, hb⟩
    clear CK
    go_wp2
    exact bodyPost_ret (results_tmp2 rfl _ _ _) rfl ⟨_, rfl, OwnsW.nil _ _, hb⟩
  · have hsS : stgS xs = stgL xs := by unfold stgS; rw [if_neg h0]
    rw [hsS]
    rw [if_neg h0] at CK
    rw [if_neg h0]
    obtain ⟨_, _, _, _, _, hx, _⟩ := ckK_leaves h0
    have HC := hide hc
    have HTK := hide (fun k (hk : k < xs.length) => stgL_take xs k hk)
    have HLN := hide (fun k => Nat.le_trans (stgL_len (xs.take k)) (by rw [List.length_take]; omega : (xs.take k).length ≤ 200))
    have HEN : Hid (stgL (xs.take xs.length) = stgL xs) := hide (by rw [List.take_length])
    clear hc hs h0 hsS
    generalize ckK xs = ck at *
    obtain ⟨n, hn⟩ : ∃ n, xs.length = n := ⟨_, rfl⟩
    have HN := hide hn
    rw [hn] at hx CK HEN ⊢
    clear hn
    go_enter Tryz.func59, Tryz.ntmps59
    go_wp2_with fail
    refine (unhide CK).mono ?_
    rintro e w1 ⟨rfl, hb1⟩
    have HB1 := hide hb1
    clear CK hb1
    go_wp2_with fail
    go_loopw [6, 7] (fun v i wr => ∃ (k : Nat) (a : Option Addr) (c NL : Nat), k ≤ n ∧ i = .int .i64 (k : Int) ∧ v = .slice a NL c ∧ NL = (stgL (xs.take k)).length ∧ Hid (OwnsW w.heap.size wr (.slice a NL c) (stgL (xs.take k))) ∧ Below w.heap.size w wr) (fun _ i _ => n - (intOf i).toNat)
    case atStart => exact ⟨0, none, 0, 0, Nat.zero_le _, rfl, rfl, rfl, hide (OwnsW.nil _ _), unhide HB1⟩
    case round =>
      obtain ⟨k, a, c, NL, hk, rfl, rfl, hNL, HO, hb⟩ := hrel
      by_cases hlt : k < n
      · have hkx : k < xs.length := by rw [unhide HN]; exact hlt
        have hli : (k : Int) < (n : Int) := by omega
        have HB := hide hb
        obtain ⟨b, off, rfl, hbl, x0, x1, x2, x3, x4⟩ := ((unhide HC).kp (Kp.ofBelow hb)).at k hkx
        have HPT : Hid (∀ W, Kp [] wr W → W.cell? ⟨b, off + k * 5 + 3, none⟩ = some (.string xs[k].st)) := hide (fun W hkp => hkp.cell x3 (by simp))
        have HNX := hide (unhide HTK k hkx)
        have hl2 := unhide HLN k
        unfold stgA at HNX
        clear HTK HLN HEN HC HB1 x0 x1 x2 x4 hb
        generalize xs[k].st = st at *
        generalize stgL (xs.take k) = L at *
        obtain ⟨a', c', hv, hnm, _⟩ := (unhide HO).at
        injection hv with e1 e2 e3
        subst e1 e3
        have HNM := hide hnm
        have HNL := hide hNL
        have hNLb : NL ≤ 200 := by omega
        have HES := hide (emp_toList st)
        have HF0 : Hid ((emptyB st || hasN (L.take 0) st) = emptyB st) := hide (by rw [List.take_zero, hasN_none, Bool.or_false])
        have HFS : Hid (∀ j (hj : j < L.length), (emptyB st || hasN (L.take (j + 1)) st) = ((emptyB st || hasN (L.take j) st) || (L[j].toList == st.toList))) := hide (fun j hj => by rw [hasN_take hj, Bool.or_assoc])
        have HFM : Hid ((emptyB st || hasN (L.take NL) st) = (emptyB st || hasN L st)) := hide (by rw [unhide HNL, List.take_length])
        have hLl : L.length ≤ 200 := hl2
        clear hnm hNL e2 hl2
        go_wp2_with fail
        rw [unhide HES]
        go_loopw [8, 9] (fun f i wx => ∃ j : Nat, j ≤ NL ∧ i = .int .i64 (j : Int) ∧ f = .bool (emptyB st || hasN (L.take j) st) ∧ Kp [] wr wx) (fun _ i _ => NL - (intOf i).toNat)
        case atStart => exact ⟨0, Nat.zero_le _, rfl, by rw [unhide HF0], Kp.refl _ _⟩
        case round =>
          obtain ⟨j, hj, rfl, rfl, kpx⟩ := hrel
          by_cases hjl : j < NL
          · have hjn : j < L.length := by rw [← unhide HNL]; exact hjl
            have hne : L ≠ [] := by rintro e; rw [e] at hjn; simp at hjn
            obtain ⟨b2, o2, rfl, _, hc2⟩ := ((unhide HNM).kp kpx (by simp)) hne
            have cj := hc2 j hjn
            have c3 := unhide HPT _ kpx
            have hji : (j : Int) < (NL : Int) := by omega
            have HNF := hide (unhide HFS j hjn)
            have HKX := hide kpx
            clear hc2 hne kpx x3 HF0 HFM HNX HO HB HFS HES HNM
            generalize L[j] = nm at *
            obtain ⟨F0, hF0⟩ : ∃ F0, (emptyB st || hasN (L.take j) st) = F0 := ⟨_, rfl⟩
            rw [hF0] at HNF ⊢
            clear hF0
            cases F0 with
            | true =>
              rw [Bool.true_or] at HNF
              go_wp2_with fail
              go_quiet (fail)
              go_wp2
              go_roundw
              case rel => exact ⟨j + 1, by omega, by go_num, by rw [unhide HNF], (unhide HKX).trans (Kp.drewQ _ _) (by simp)⟩
              case measure => simp [intOf]; omega
            | false =>
              rw [Bool.false_or] at HNF
              go_wp2_with fail
              go_region
              go_wp2
              go_roundw
              case rel => exact ⟨j + 1, by omega, by go_num, by rw [unhide HNF], (unhide HKX).trans (Kp.drew _) (by simp)⟩
              case measure => simp [intOf]; omega
          · obtain rfl : j = NL := by omega
            rw [unhide HFM]
            have HKX := hide kpx
            have c3 := unhide HPT _ kpx
            have HBX := hide ((unhide HB).trans (kpx.below (unhide HB).size (by simp)))
            have HOX := hide ((unhide HO).kp kpx)
            clear kpx x3 HF0 HFM HFS HPT HB HO HKX HNM HES
            obtain ⟨F0, hF0⟩ : ∃ F0, (emptyB st || hasN L st) = F0 := ⟨_, rfl⟩
            rw [hF0] at HNX ⊢
            clear hF0
            cases F0 with
            | true =>
              rw [if_pos rfl] at HNX
              go_wp2
              go_roundw
              case rel => exact ⟨k + 1, a, c, j, by omega, by go_num, rfl, by rw [unhide HNX]; exact unhide HNL, by rw [unhide HNX]; exact HOX, unhide HBX⟩
              case measure => simp [intOf]; omega
            | false =>
              rw [if_neg (by simp)] at HNX
              have k6 := Kp.alloc wr (.cells #[.string st] 9)
              have hb6 := (unhide HBX).trans (k6.below (unhide HBX).size (by simp))
              have ho6 := (unhide HOX).kp k6
              obtain ⟨g', cap', w', hrun, hO', hbw, _⟩ := OwnsW.app (c := 1) ho6 hb6.size st (g := wr.heap.size) ((CBox.new wr _ _).cell rfl) (by omega) 68
              rw [← unhide HNL] at hrun hO'
              have HRUN := hide hrun
              have HO' := hide hO'
              have HBW := hide (hb6.trans hbw)
              clear hrun hO' hbw hb6 ho6 k6 HBX HOX
              go_wp2_with (at_builtin; refine wpList_app_run rfl _ _ _ rfl rfl rfl (unhide HRUN) ?_)
              go_roundw
              case rel => exact ⟨k + 1, _, cap', j + 1, by omega, by go_num, rfl, by rw [unhide HNX, List.length_append, ← unhide HNL]; rfl, by rw [unhide HNX]; exact HO', unhide HBW⟩
              case measure => simp [intOf]; omega
      · obtain rfl : k = n := by omega
        have HE := unhide HEN
        rw [HE] at HO
        clear HE HEN HTK HLN HC HB1 hNL
        go_wp2
        exact bodyPost_ret (results_tmp2 rfl _ _ _) rfl ⟨_, rfl, unhide HO, hb⟩
end Go.Proofs.YtjijhefmbmdbeaaGreatDoor
