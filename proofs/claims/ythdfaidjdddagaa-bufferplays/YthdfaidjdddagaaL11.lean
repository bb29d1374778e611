/-
  The document's buffer: dropped.
  The document's buffer: the way of an entry.
-/
import Derived.Test.YthdfaidjdddagaaL10
import Derived.ProofKit
namespace Go.Proofs.Ythdfaidjdddagaa
open Go.RowKit

theorem RbI.letGo {c : Nat → Ent} {n i : Nat} {es : Nat → Ent} (h : RbI c (-1) n es) (hv : lvE (c i) = true) (he : es i = c i) : RbI (lgE c i) (i : Int) n (setE es i ⟨(es i).s, (es i).p, (es i).q, (es i).h - 1, (es i).k⟩) := by
  have pe : ∀ j, prE (lgE c i) (i : Int) j = prE c (-1) j := fun j => by
    rw [prE_neg]
    by_cases e : j = i
    · subst e; rw [prE_self, hv]
    · rw [prE_ne _ _ _ (by omega)]; unfold lgE; rw [setE_ne _ _ e]
  refine ⟨fun j hj hp => ?_, fun j hj hp => ?_, fun j hj hn => by rw [pe]; exact h.out j hj hn, h.le⟩
  · rw [pe] at hp
    unfold lgE
    by_cases e : j = i
    · subst e; rw [setE_same, setE_same, he]
    · rw [setE_ne _ _ e, setE_ne _ _ e]; exact h.eq j hj hp
  · rw [pe] at hp
    have e : j ≠ i := fun e => by subst e; rw [prE_neg, hv] at hp; cases hp
    rw [setE_ne _ _ e]; exact h.no j hj hp
theorem RbI.stop {c : Nat → Ent} {n j : Nat} {es : Nat → Ent} (h : RbI c (j : Int) n es) (hv : lvE (c j) = true) : RbI c (-1) n es := by
  have pe : ∀ i, prE c (-1) i = prE c (j : Int) i := fun i => by
    rw [prE_neg]
    by_cases e : i = j
    · subst e; rw [prE_self, hv]
    · rw [prE_ne _ _ _ (by omega)]
  exact ⟨fun i hi hp => h.eq i hi (by rw [← pe]; exact hp), fun i hi hp => h.no i hi (by rw [← pe]; exact hp), fun i hi hn => by rw [pe]; exact h.out i hi hn, h.le⟩
theorem RbI.removeF {c : Nat → Ent} {n j m : Nat} {B : Int} {es : Nat → Ent} (h : RbI c (j : Int) n es) (hI : BIv c (j : Int) m B) (hj : j < 4096) (hv : lvE (c j) = false) (hq : (c j).q = -1) : RbI (rmE c j) (-1) n es := by
  have hr : rmE c j = setE c j zeE := by unfold rmE; rw [if_pos hq]
  rw [hr]
  have pj : prE (setE c j zeE) (-1) j = false := by rw [prE_neg, setE_same]; rfl
  have pe : ∀ i, i ≠ j → prE (setE c j zeE) (-1) i = prE c (j : Int) i := fun i e => by rw [prE_neg, setE_ne _ _ e, prE_ne _ _ _ (by omega)]
  refine ⟨fun i hi hp => ?_, fun i hi hp => ?_, fun i hi hn => ?_, h.le⟩
  · have e : i ≠ j := fun e => by subst e; rw [pj] at hp; cases hp
    rw [pe i e] at hp
    rw [setE_ne _ _ e]; exact h.eq i hi hp
  · by_cases e : i = j
    · subst e
      rw [h.eq i hi (prE_self c i)]
      rw [lvE_not] at hv
      have := hI.low i hj
      omega
    · rw [pe i e] at hp; exact h.no i hi hp
  · by_cases e : i = j
    · subst e; exact pj
    · rw [pe i e]; exact h.out i hi hn
theorem RbI.removeB {c : Nat → Ent} {n j a m : Nat} {B : Int} {es : Nat → Ent} (h : RbI c (j : Int) n es) (hI : BIv c (j : Int) m B) (hj : j < 4096) (hv : lvE (c j) = false) (hq : (c j).q = (a : Int)) (ha : a < 4096) (hk : 0 < (c a).k) (hne : a ≠ j) : RbI (rmE c j) (a : Int) n (setE es a ⟨(es a).s, (es a).p, (es a).q, (es a).h, (es a).k - 1⟩) := by
  have hr : rmE c j = kdE (setE c j zeE) a (-1) := by unfold rmE; rw [if_neg (by omega), hq]; simp
  rw [hr]
  have hla : prE c (j : Int) a = true := prE_lv _ (lv_kids hI ha hk)
  have vj : kdE (setE c j zeE) a (-1) j = zeE := by unfold kdE; rw [setE_ne _ _ (Ne.symm hne), setE_same]
  have va : kdE (setE c j zeE) a (-1) a = ⟨(c a).s, (c a).p, (c a).q, (c a).h, (c a).k + -1⟩ := by unfold kdE; rw [setE_same, setE_ne _ _ hne]
  have vo : ∀ i, i ≠ j → i ≠ a → kdE (setE c j zeE) a (-1) i = c i := fun i e1 e2 => by unfold kdE; rw [setE_ne _ _ e2, setE_ne _ _ e1]
  generalize kdE (setE c j zeE) a (-1) = d at vj va vo
  have pj : prE d (a : Int) j = false := by rw [prE_ne _ _ _ (by omega), vj]; rfl
  have pe : ∀ i, i ≠ j → prE d (a : Int) i = prE c (j : Int) i := fun i e => by
    by_cases e2 : i = a
    · subst e2; rw [prE_self, hla]
    · rw [prE_ne _ _ _ (by omega), prE_ne _ _ _ (by omega), vo i e e2]
  refine ⟨fun i hi hp => ?_, fun i hi hp => ?_, fun i hi hn => ?_, h.le⟩
  · have e : i ≠ j := fun e => by subst e; rw [pj] at hp; cases hp
    rw [pe i e] at hp
    by_cases e2 : i = a
    · subst e2; rw [setE_same, va, h.eq i hi hp]; rfl
    · rw [setE_ne _ _ e2, vo i e e2]; exact h.eq i hi hp
  · by_cases e : i = j
    · subst e
      rw [setE_ne _ _ (Ne.symm hne), h.eq i hi (prE_self c i)]
      rw [lvE_not] at hv
      have := hI.low i hj
      omega
    · rw [pe i e] at hp
      have e2 : i ≠ a := fun e2 => by subst e2; rw [hla] at hp; cases hp
      rw [setE_ne _ _ e2]; exact h.no i hi hp
  · by_cases e : i = j
    · subst e; exact pj
    · rw [pe i e]; exact h.out i hi hn
set_option maxHeartbeats 1000000 in
set_option maxRecDepth 100000 in
theorem rdrop_not (br n : Nat) (v : Value) (es c : Nat → Ent) (id : Int) (w : World) (h : Rb br v n es c (-1) w) (hS : Sml c) (hn : hasE c id = false) : Calls Try.prog 15 #[.pointer (some ⟨br, 0, none⟩), .int .i64 id] w fun e w' => e = .returned (.tuple #[.int .i64 0, .int .i64 160]) ∧ Kp [] w w' := by
  have HA := hide (rhas_any br n v es c id w h hS)
  rw [hn] at HA
  clear h hn
  go_enter Try.func15, Try.ntmps15
  go_wp2_with fail
  refine (unhide HA).mono ?_
  rintro r w1 ⟨rfl, HK1⟩
  have HK1 := hide HK1
  clear HA
  go_wp2_with fail
  go_ret2
  exact ⟨rfl, unhide HK1⟩
set_option maxHeartbeats 1000000 in
set_option maxRecDepth 100000 in
theorem rdrop_held (br n i : Nat) (hi : i < 4096) (v : Value) (es c : Nat → Ent) (w : World) (h : Rb br v n es c (-1) w) (hS : Sml c) (hv : lvE (c i) = true) (hz : (c i).h = 0) : Calls Try.prog 15 #[.pointer (some ⟨br, 0, none⟩), .int .i64 (i : Int)] w fun e w' => e = .returned (.tuple #[.int .i64 0, .int .i64 1]) ∧ Kp [] w w' := by
  have HA := hide (rhas_any br n v es c (i : Int) w h hS)
  rw [hasE_nat c i hi, hv] at HA
  have hin := h.iv.inrow i hi (by rw [prE_neg]; exact hv)
  have hii : (i : Int) < (n : Int) := by omega
  have hec := h.iv.eq i hin (by rw [prE_neg]; exact hv)
  have HR := hide h
  clear h hv
  go_enter Try.func15, Try.ntmps15
  go_wp2_with fail
  refine (unhide HA).mono ?_
  rintro r w1 ⟨rfl, HK1⟩
  have hr := (unhide HR).kp HK1
  have HK1 := hide HK1
  rcases hr.row with ⟨_, rfl⟩ | ⟨g, cap, rfl, _, hrow⟩
  · omega
  · have b0 := hr.box.cell (i := 0) rfl
    obtain ⟨_, _, _, c3, _⟩ := hrow.cells i hin
    rw [hec, hz] at c3
    clear HA hr hrow HR hec
    go_wp2_with fail
    go_ret2
    exact ⟨rfl, unhide HK1⟩
set_option maxHeartbeats 2000000 in
set_option maxRecDepth 100000 in
theorem rdrop_ok (br n i m : Nat) (B : Int) (hi : i < 4096) (v : Value) (es c : Nat → Ent) (w : World) (h : Rb br v n es c (-1) w) (hI : BIv c (-1) m B) (hB0 : 0 ≤ B) (hB : B ≤ 2305843009213693952) (hz : 0 < (c i).h) : Calls Try.prog 15 #[.pointer (some ⟨br, 0, none⟩), .int .i64 (i : Int)] w fun e w' => ∃ (k : Nat) (d es' : Nat → Ent), e = .returned (.tuple #[.int .i64 (k : Int), .int .i64 0]) ∧ Hid (Swp (lgE c i) (i : Int) k d) ∧ Rb br v n es' d (-1) w' ∧ KpB br w w' := by
  have hS := hI.sml hB
  obtain ⟨s1, s2, s3, s4⟩ := hS i hi
  have hv : lvE (c i) = true := by rw [lvE_iff]; omega
  have HA := hide (rhas_any br n v es c (i : Int) w h hS)
  rw [hasE_nat c i hi, hv] at HA
  have hin := h.iv.inrow i hi (by rw [prE_neg]; exact hv)
  have hii : (i : Int) < (n : Int) := by omega
  have hec := h.iv.eq i hin (by rw [prE_neg]; exact hv)
  have HI := hide (h.iv.letGo hv hec)
  have HBI := hide (hI.letGo hi hz)
  have hmle := hI.mle
  have hne0 : ¬ (c i).h = 0 := by omega
  have HR := hide h
  clear h hv hI
  go_enter Try.func15, Try.ntmps15
  go_wp2_with fail
  refine (unhide HA).mono ?_
  rintro r w1 ⟨rfl, HK1⟩
  have hr := (unhide HR).kp HK1
  have HK1 := hide HK1
  rcases hr.row with ⟨_, rfl⟩ | ⟨g, cap, rfl, hg, hrow⟩
  · omega
  · have b0 := hr.box.cell (i := 0) rfl
    obtain ⟨_, _, _, c3, _⟩ := hrow.cells i hin
    have f3 := hrow.froz (i * 5 + 3)
    have HN := hide (hrow.setH i hin ((es i).h - 1))
    have HBX := hide (hr.box.kp (Kp.set w1 g (i * 5 + 3) (.int .i64 ((es i).h - 1))) (by simp; omega))
    rw [hec] at c3 HN HBX HI
    have HKP : Hid (Kp [g] w (w1.setCell ⟨g, i * 5 + 3, none⟩ (.int .i64 ((c i).h - 1)))) := hide (((unhide HK1).mono (by simp)).trans (Kp.set w1 g _ _) (by simp))
    have b9 := (unhide HBX).cell (i := 0) (v := .slice (some ⟨g, 0, none⟩) n cap) rfl
    clear HA hr hrow HR hec HK1
    go_wp2_with fail
    go_loopw [1, 6] (fun x k wr => ∃ (q : Int) (kk : Nat) (d es' : Nat → Ent), x = .int .i64 q ∧ kk ≤ m ∧ k = .int .i64 (kk : Int) ∧ Hid (∀ n' e, Swp d q n' e → Swp (lgE c i) (i : Int) (kk + n') e) ∧ Hid (BIv d q (m - kk) B) ∧ Hid (RoE g n cap es' wr) ∧ Hid (RbI d q n es') ∧ Hid (CBox br #[.slice (some ⟨g, 0, none⟩) n cap] 28 wr) ∧ Hid (Kp [g] w wr)) (fun _ k _ => m - (intOf k).toNat)
    case atStart => exact ⟨_, 0, _, _, rfl, Nat.zero_le _, rfl, hide (fun n' e hs => by simpa using hs), HBI, HN, HI, HBX, HKP⟩
    case round =>
      clear HBI HN HI HBX HKP c3 f3 b0 b9
      obtain ⟨q, kk, d, es', rfl, hkk, rfl, H1, H2, H3, H4, H5, H6⟩ := hrel
      have b0 := (unhide H5).cell (i := 0) (v := .slice (some ⟨g, 0, none⟩) n cap) rfl
      rcases (unhide H2).xs with rfl | ⟨j, rfl, hj⟩
      · go_wp2_with fail
        go_quiet (fail)
        go_wp2_with fail
        go_ret2
        exact ⟨kk, d, es', rfl, hide (by simpa using unhide H1 0 d (Swp.none d)), ⟨(unhide H5).kp (Kp.drewQ _ _) (by simp), Or.inr ⟨g, cap, rfl, hg, (unhide H3).kp (Kp.drewQ _ _) (by simp)⟩, unhide H4⟩, KpB.of ((unhide H6).trans (Kp.drewQ _ _) (by simp)) (by simp; omega)⟩
      · have hj1 : ¬ (j : Int) = -1 := by omega
        have hj2 : ((j : Int) != -1) = true := by simp
        have hjn := (unhide H4).inrow j hj (prE_self d j)
        have hji : (j : Int) < (n : Int) := by omega
        have hej := (unhide H4).eq j hjn (prE_self d j)
        obtain ⟨_, _, c2, c3, c4⟩ := (unhide H3).cells j hjn
        rw [hej] at c2 c3 c4
        obtain ⟨t1, t2, t3, t4⟩ := (unhide H2).sml hB j hj
        by_cases hlv : 0 < (d j).h + (d j).k
        · have hne : ¬ (d j).h + (d j).k = 0 := by omega
          have hb1 : ((d j).h + (d j).k == 0) = false := by simp [hne]
          have hb2 : decide ((d j).h + (d j).k = 0) = false := by simp [hne]
          have HLV : Hid (lvE (d j) = true) := hide ((lvE_iff _).2 hlv)
          go_wp2_with fail
          go_quiet (fail)
          go_wp2_with fail
          go_ret2
          exact ⟨kk, d, es', rfl, hide (by simpa using unhide H1 0 d (Swp.there d j (unhide HLV))), ⟨(unhide H5).kp (Kp.drewQ _ _) (by simp), Or.inr ⟨g, cap, rfl, hg, (unhide H3).kp (Kp.drewQ _ _) (by simp)⟩, (unhide H4).stop (unhide HLV)⟩, KpB.of ((unhide H6).trans (Kp.drewQ _ _) (by simp)) (by simp; omega)⟩
        · have hz0 : (d j).h + (d j).k = 0 := by omega
          have hb1 : ((d j).h + (d j).k == 0) = true := by simp [hz0]
          have hb2 : decide ((d j).h + (d j).k = 0) = true := by simp [hz0]
          have hvj : lvE (d j) = false := (lvE_not _).2 hlv
          obtain ⟨hI2, hpos⟩ := (unhide H2).remove hB0 hj hvj
          have HI2 := hide hI2
          have hkm : kk < m := by omega
          have HSW : Hid (∀ n' e, Swp (rmE d j) (d j).q n' e → Swp (lgE c i) (i : Int) (kk + 1 + n') e) := hide (fun n' e hs => by
            rw [show kk + 1 + n' = kk + (n' + 1) by omega]
            exact unhide H1 _ _ (Swp.step d e j n' hvj hs))
          rcases (unhide H2).par j hj (prE_self d j) with hq | ⟨a, hq, ha, hka, _, hpa⟩
          · have HRM := hide ((unhide H4).removeF (unhide H2) hj hvj hq)
            rw [hq] at c2 HI2 HSW
            clear hI2 hej hz0 hq hlv hvj
            go_wp2_with fail
            go_quiet (fail)
            go_wp2_with fail
            go_roundw
            case rel => exact ⟨-1, kk + 1, rmE d j, es', rfl, by omega, by go_num, HSW, by rw [show m - (kk + 1) = m - kk - 1 by omega]; exact HI2, hide ((unhide H3).kp (Kp.drewQ _ _) (by simp)), HRM, hide ((unhide H5).kp (Kp.drewQ _ _) (by simp)), hide ((unhide H6).trans (Kp.drewQ _ _) (by simp))⟩
            case measure => simp [intOf]; omega
          · have haj : a ≠ j := fun e => by subst e; omega
            have HRM := hide ((unhide H4).removeB (unhide H2) hj hvj hq ha hka haj)
            have han := (unhide H4).inrow a ha (prE_lv _ (lv_kids (unhide H2) ha hka))
            have hai : (a : Int) < (n : Int) := by omega
            have ha1 : ¬ (a : Int) = -1 := by omega
            have hea := (unhide H4).eq a han (prE_lv _ (lv_kids (unhide H2) ha hka))
            obtain ⟨_, _, _, _, d4⟩ := (unhide H3).cells a han
            have f4 := (unhide H3).froz (a * 5 + 4)
            have hkle := (unhide H2).kle a ha
            rw [hea] at d4
            have hxx := hea
            rw [hq] at c2 HI2 HSW
            have HNX : Hid (∀ q', RoE g n cap (setE es' a ⟨(es' a).s, (es' a).p, (es' a).q, (es' a).h, (es' a).k - 1⟩) ((wr.drewN q').setCell ⟨g, a * 5 + 4, none⟩ (.int .i64 ((d a).k - 1))) ∧ CBox br #[.slice (some ⟨g, 0, none⟩) n cap] 28 ((wr.drewN q').setCell ⟨g, a * 5 + 4, none⟩ (.int .i64 ((d a).k - 1))) ∧ Kp [g] w ((wr.drewN q').setCell ⟨g, a * 5 + 4, none⟩ (.int .i64 ((d a).k - 1)))) := hide (fun q' => by
              have e := ((unhide H3).kp (Kp.drewQ _ q') (by simp)).setK a han ((es' a).k - 1)
              rw [hea] at e
              rw [hea]
              exact ⟨e, ((unhide H5).kp (Kp.drewQ _ q') (by simp)).kp (Kp.set _ g _ _) (by simp; omega), ((unhide H6).trans (Kp.drewQ _ q') (by simp)).trans (Kp.set _ g _ _) (by simp)⟩)
            clear hI2 hej hea hxx hz0 hq hlv hvj
            go_wp2_with fail
            go_quiet (fail)
            go_wp2_with fail
            go_roundw
            case rel => exact ⟨(a : Int), kk + 1, rmE d j, _, rfl, by omega, by go_num, HSW, by rw [show m - (kk + 1) = m - kk - 1 by omega]; exact HI2, hide (unhide HNX _).1, HRM, hide (unhide HNX _).2.1, hide (unhide HNX _).2.2⟩
            case measure => simp [intOf]; omega
end Go.Proofs.Ythdfaidjdddagaa
namespace Go.Proofs.Ythdfaidjdddagaa
open Go.RowKit

set_option maxHeartbeats 1000000 in
set_option maxRecDepth 100000 in
theorem rway_not (br n : Nat) (v : Value) (es c : Nat → Ent) (id : Int) (w : World) (h : Rb br v n es c (-1) w) (hS : Sml c) (hn : hasE c id = false) : Calls Try.prog 17 #[.pointer (some ⟨br, 0, none⟩), .int .i64 id] w fun e w' => e = .returned (.tuple #[.slice none 0 0, .int .i64 160]) ∧ Kp [] w w' := by
  have HA := hide (rhas_any br n v es c id w h hS)
  rw [hn] at HA
  clear h hn
  go_enter Try.func17, Try.ntmps17
  go_wp2_with fail
  refine (unhide HA).mono ?_
  rintro r w1 ⟨rfl, HK1⟩
  have HK1 := hide HK1
  clear HA
  go_wp2_with fail
  go_ret2
  exact ⟨rfl, unhide HK1⟩
theorem own_one (w : World) (x : Int × Int) : OwP w.heap.size (w.alloc (.cells #[.int .i64 x.1, .int .i64 x.2] 41)) (.slice (some ⟨w.heap.size, 0, none⟩) 1 1) [x] :=
  ⟨rfl, Or.inr ⟨w.heap.size, 1, #[.int .i64 x.1, .int .i64 x.2], rfl, Nat.le_refl _, CBox.new w _ _, Nat.le_refl _, by unfold maxLen; omega, rfl, rfl⟩⟩
theorem own_any {B : Nat} {w : World} {e : TypeId} {sz n : Nat} {v : Value} {xs : List Value} (h : w.ownsRow B e sz v n xs) : ∃ ad cap, v = .slice ad n cap ∧ (ad = none → n = 0 ∧ cap = 0) ∧ (∀ a, ad = some a → a.spot = none) ∧ ∀ a, ad = some a → ∀ j u, xs[j]? = some u → w.cell? (a.add j) = some u := by
  obtain ⟨h0, ⟨rfl, rfl⟩ | ⟨g, cap, cur, rfl, hg, hh, h2, h3, h4, h5⟩⟩ := h
  · exact ⟨none, 0, rfl, fun _ => ⟨rfl, rfl⟩, fun a ha => (by cases ha), fun a ha => (by cases ha)⟩
  · refine ⟨_, _, rfl, fun h => (by cases h), fun a ha => (by injection ha with ha; subst ha; rfl), fun a ha j u hj => ?_⟩
    injection ha with ha
    subst ha
    have hlt : j < n * sz := by
      have := (List.getElem?_eq_some_iff.1 hj).1
      rw [h0] at this
      exact this
    rw [← h5, List.getElem?_take_of_lt hlt] at hj
    simp at hj
    rw [Go.WideShapes.add_plain, Nat.zero_add]
    simp [World.cell?, hh, hj]
set_option maxHeartbeats 2000000 in
set_option maxRecDepth 100000 in
theorem rway_ok (br n i m : Nat) (B : Int) (hi : i < 4096) (v : Value) (es c : Nat → Ent) (w : World) (h : Rb br v n es c (-1) w) (hI : BIv c (-1) m B) (hB : B ≤ 2305843009213693952) (hv : lvE (c i) = true) : Calls Try.prog 17 #[.pointer (some ⟨br, 0, none⟩), .int .i64 (i : Int)] w fun e w' => ∃ (l : List (Int × Int)) (u : Value), e = .returned (.tuple #[u, .int .i64 0]) ∧ Hid (IsWay c (i : Int) l) ∧ l.length ≤ 1073741825 ∧ OwP w.heap.size w' u l ∧ Kp [] w w' := by
  have HA := hide (rhas_any br n v es c (i : Int) w h (hI.sml hB))
  rw [hasE_nat c i hi, hv] at HA
  have HU := hide h
  have HI := hide hI
  have HV := hide hv
  clear h hI hv hB
  go_enter Try.func17, Try.ntmps17
  go_wp2_with fail
  refine (unhide HA).mono ?_
  rintro r w1 ⟨rfl, HK1⟩
  have HK1 := hide HK1
  clear HA
  go_wp2_with fail
  go_loopw [1, 6] (fun x u wr => ∃ (q : Int) (r : List (Int × Int)), x = .int .i64 q ∧ r.length ≤ 1073741825 ∧ Hid (q = -1 ∨ ∃ j : Nat, q = (j : Int) ∧ j < 4096 ∧ lvE (c j) = true ∧ (c j).p + (r.length : Int) ≤ 1073741824) ∧ Hid (∀ l, IsWay c q l → IsWay c (i : Int) (l ++ r)) ∧ Hid (OwP w.heap.size wr u r) ∧ Hid (Kp [] w wr)) (fun x _ _ => if intOf x = -1 then 0 else ((c (intOf x).toNat).p + 1).toNat)
  case atStart => exact ⟨i, [], rfl, by simp, hide (Or.inr ⟨i, rfl, hi, unhide HV, by simpa using ((unhide HI).rng i hi (prE_lv _ (unhide HV))).2.2.2⟩), hide (fun l hl => by simpa using hl), hide (OwP.nil _ _), HK1⟩
  case round =>
    clear HK1
    obtain ⟨q, r, rfl, hrl, HQ, HW, HO, HK⟩ := hrel
    by_cases hq : q = -1
    · subst hq
      go_wp2_with fail
      go_ret2
      exact ⟨r, _, rfl, hide (by simpa using unhide HW [] IsWay.none), hrl, unhide HO, unhide HK⟩
    · obtain ⟨j, rfl, hj, hvj, hpj⟩ : ∃ j : Nat, q = (j : Int) ∧ j < 4096 ∧ lvE (c j) = true ∧ (c j).p + (r.length : Int) ≤ 1073741824 := by
        rcases unhide HQ with h | h
        · exact absurd h hq
        · exact h
      have hr := (unhide HU).kp (unhide HK)
      have hjn := hr.iv.inrow j hj (by rw [prE_neg]; exact hvj)
      have hji : (j : Int) < (n : Int) := by omega
      have hej := hr.iv.eq j hjn (by rw [prE_neg]; exact hvj)
      rcases hr.row with ⟨_, rfl⟩ | ⟨g, cap, hvv, hg, hrow⟩
      · omega
      · have b0 := hr.box.cell (i := 0) rfl
        obtain ⟨s1, s2, s3, _, _⟩ := hrow.cells j hjn
        rw [hej] at s1 s2 s3
        rw [hvv] at b0
        obtain ⟨hs1, hs2, hp1, hp2⟩ := (unhide HI).rng j hj (prE_lv _ hvj)
        have HPAR := hide ((unhide HI).par j hj (prE_lv _ hvj))
        have HPJ := hide hpj
        have HRL : Hid (r.length + 1 ≤ 1073741825) := hide (by omega)
        have HWN : Hid (∀ l, IsWay c (c j).q l → IsWay c (i : Int) (l ++ ((c j).s, (c j).p) :: r)) := hide (fun l hl => by
          have := unhide HW _ (IsWay.some j l hj hvj hl)
          simpa using this)
        obtain ⟨adu, cpu, hu6, hnone, hspot, hcells⟩ := own_any (unhide HO)
        have SRC : Hid (∀ W, Kp [] wr W → ∀ a, adu = some a → ∀ jj u, (prC r)[jj]? = some u → W.cell? (a.add jj) = some u) := hide (fun W hW a ha jj u hu => hW.cell (hcells a ha jj u hu) (by simp))
        have HNONE := hide hnone
        have HSPOT := hide hspot
        have hwl : w.heap.size ≤ wr.heap.size := (unhide HK).size
        have oE : (wr.alloc (.cells #[.int .i64 (c j).s, .int .i64 (c j).p] 41)).drew.ownsRow 0 41 2 (.slice (some ⟨wr.heap.size, 0, none⟩) 1 1) 1 [.int .i64 (c j).s, .int .i64 (c j).p] := own_kp (own_kp (show World.ownsRow _ 0 _ _ _ _ _ from by
          obtain ⟨h0, ⟨hh, _⟩ | ⟨g', cap', cur', e', _, hrest⟩⟩ := own_one wr ((c j).s, (c j).p)
          · cases hh
          · exact ⟨h0, Or.inr ⟨g', cap', cur', e', Nat.zero_le _, hrest⟩⟩) (Kp.refl [] _) (fun _ _ => by simp)) (Kp.drew _) (fun _ _ => by simp)
        have kE : Kp [] wr (wr.alloc (.cells #[.int .i64 (c j).s, .int .i64 (c j).p] 41)).drew := (Kp.alloc _ _).trans (Kp.drew _) (by simp)
        have HKE := hide kE
        obtain ⟨i0, hi0, hz0, hz1, hz2⟩ := info_parts info_pair
        have HFIN : Hid (∀ g7 cap7 w7, w7.ownsRow 0 41 2 (.slice (some ⟨g7, 0, none⟩) (r.length + 1) cap7) (r.length + 1) ([.int .i64 (c j).s, .int .i64 (c j).p] ++ prC r) → Kp [] wr w7 → wr.heap.size ≤ g7 → OwP w.heap.size w7 (.slice (some ⟨g7, 0, none⟩) (r.length + 1) cap7) (((c j).s, (c j).p) :: r) ∧ Kp [] w w7 ∧ Rb br v n es c (-1) w7) := hide (fun g7 cap7 w7 h1 h2 h3 => by
          refine ⟨?_, (unhide HK).trans h2 (by simp), hr.kp h2⟩
          obtain ⟨h0, ⟨hh, _⟩ | ⟨g', cap', cur', e', _, hrest⟩⟩ := h1
          · cases hh
          · refine ⟨h0, Or.inr ⟨g', cap', cur', e', ?_, hrest⟩⟩
            injection e' with e1
            injection e1 with e1
            injection e1 with e1
            omega)
        have HB0 := hide hvv
        have HEJ := hide hej
        have HJN := hide hjn
        subst hu6
        clear hr hrow hcells hnone hspot kE hvj hpj hej hvv
        go_wp2_with fail
        go_region_law
          (refine step_app_any rfl (.tmp 30) (.tmp 31) 37 rfl 41 i0 (.agg #[.int .i64 0, .int .i64 0]) 2 16 Try.underlying37 hi0 hz0 hz1 hz2 rfl (by decide) rfl oE _ _ _ (prC r) rfl (prC_len r) (unhide HNONE) (unhide HSPOT) (unhide SRC _ (unhide HKE)) (prC_one r) (by unfold maxLen; omega) (by omega) (r.length + 1) (by omega) ?_; intro g7 cap7 w7 own7 gr7 at7; have k7 : Kp [] wr w7 := kp_gr (unhide HKE) gr7 (Nat.le_refl _); have hg7 : wr.heap.size ≤ g7 := (by rcases at7 with rfl | rfl <;> (try simp) <;> omega); obtain ⟨OW7, KW7, RB7⟩ := unhide HFIN g7 cap7 w7 own7 k7 hg7; have b7 := RB7.box.cell (i := 0) rfl; rw [unhide HB0] at b7; have c7 : w7.cell? ⟨g, j * 5 + 2, none⟩ = some (.int .i64 (c j).q) := k7.cell s3 (by simp); have HOW := hide OW7; have HKW := hide KW7; clear own7 gr7 at7 k7 OW7 KW7 RB7)
        all_goals
          clear oE HKE SRC HNONE HSPOT HFIN HO HW s1 s2 s3 b0
          go_wp2_with fail
          go_roundw
          case rel =>
            refine ⟨_, _, rfl, ?_, hide ?_, HWN, ?_, HKW⟩
            · simpa using unhide HRL
            · rcases unhide HPAR with h1 | ⟨a, h1, h2, h3, h4, h5⟩
              · exact Or.inl h1
              · exact Or.inr ⟨a, h1, h2, lv_kids (unhide HI) h2 h3, by have := unhide HPJ; simp; omega⟩
            · exact HOW
          case measure =>
            rcases unhide HPAR with h1 | ⟨a, h1, h2, h3, h4, h5⟩
            · simp [intOf, h1]; omega
            · simp [intOf, h1]; omega
end Go.Proofs.Ythdfaidjdddagaa
