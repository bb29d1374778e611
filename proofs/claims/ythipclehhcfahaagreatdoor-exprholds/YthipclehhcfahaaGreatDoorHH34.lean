/-
  The document's Holds is the plain function.
  The reader: how it lies; the word at hand.
-/
import Derived.Test.YthipclehhcfahaaGreatDoorHH33
import Derived.Test.YthipclehhcfahaaGreatDoorHH25
namespace Go.Proofs.YthipclehhcfahaaGreatDoor
open Go.RowKit Go.Shelf

theorem hasN_take {ns : List ByteArray} {k : Nat} (h : k < ns.length) (st : ByteArray) : hasN (ns.take (k + 1)) st = (hasN (ns.take k) st || (ns[k].toList == st.toList)) := by
  rw [Bool.eq_iff_iff, Bool.or_eq_true, hasN_iff, hasN_iff, List.take_succ_eq_append_getElem h, List.mem_append, List.mem_singleton, toList_data, toList_data, beq_iff_eq, data_inj]
  constructor
  · rintro (h | h)
    · exact Or.inl h
    · exact Or.inr h.symm
  · rintro (h | h)
    · exact Or.inl h
    · exact Or.inr h.symm
theorem hasN_none (st : ByteArray) : hasN ([] : List ByteArray) st = false := by
  unfold hasN
  simp
set_option maxHeartbeats 4000000 in
set_option maxRecDepth 100000 in
theorem rHolds_any (ad an al : Option Addr) (cap cn cl : Nat) (xs : List Pt) (ev : Ev) (ns : List ByteArray) (la : List Ev) (w : World) (hc : PtsAt w ad xs) (hn : NmsAt w an ns) (hln : ns.length ≤ 9223372036854775807) (he : EvsAt w al la) (hs : ∀ p ∈ xs, p.s.size ≤ 140737488351232 ∧ p.st.size ≤ 9223372036854775807) :
    Calls Tryz.prog 20 #[.slice ad xs.length cap, .agg ev.c, .slice an ns.length cn, .slice al la.length cl] w fun e w' => e = .returned (.tuple #[.bool (hdB xs ⟨ev, ns, la⟩), .int .i64 (hdE xs ⟨ev, ns, la⟩)]) ∧ Below w.heap.size w w' := by
  have hev : ev.c = #[.string ev.k, .string ev.t, .int .i64 ev.n0, .int .i64 ev.n1, .int .i64 ev.n2, .int .i64 ev.n3, .string ev.x] := rfl
  have b1 : Below w.heap.size w (w.alloc (.cells ev.c 37)) := (Below.refl _ _).alloc (Nat.le_refl _) _
  have e1 : EBox w.heap.size ev (w.alloc (.cells ev.c 37)) := CBox.new w _ _
  have CK := rCheck_any ad cap xs _ (hc.kp (Kp.alloc w (.cells ev.c 37))) hs
  have HL : Hid (∀ w2, Kp [] (w.alloc (.cells ev.c 37)) w2 → EBox w.heap.size ev w2 ∧ Hid (Below w.heap.size w w2) ∧ Hid (RkE ⟨ev, ns, la⟩ ad an al xs w2)) := hide (fun w2 hb => ⟨CBox.kp e1 hb (by simp), hide (b1.trans (hb.below (by simp) (by simp))), hide ⟨(hc.kp (Kp.alloc w (.cells ev.c 37))).kp hb, (hn.kp (Kp.alloc w (.cells ev.c 37)) (by simp)).kp hb (by simp), (he.kp (Kp.alloc w (.cells ev.c 37)) (by simp)).kp hb (by simp)⟩⟩)
  rw [hev] at CK HL
  have HCK := hide CK
  clear CK b1 e1 hc hn he hs
  rw [hev]
  by_cases h3 : ckK xs = 3
  · have hcode : (if ckK xs = 0 then (110 : Int) else 0) = 0 := if_neg (by rw [h3]; decide)
    rw [hcode, h3] at HCK
    clear hcode
    obtain ⟨t, t1, t2, t3, _, t5, t6⟩ := ckK_leaves (x := xs) (by rw [h3]; decide)
    have HN0 : Hid (ns.length ≠ la.length ∨ hasS ns xs = false → hdE xs ⟨ev, ns, la⟩ = 5 ∧ hdB xs ⟨ev, ns, la⟩ = false) := hide (fun h => hold_none h3 h)
    have HOKK : Hid (ns.length = la.length → hasS ns xs = true → hdE xs ⟨ev, ns, la⟩ = 0 ∧ hdB xs ⟨ev, ns, la⟩ = (t.val (vlv ⟨ev, ns, la⟩)).t) := hide (fun h1 h2 => by
      obtain ⟨e1, v, e2, e3⟩ := hold_ok (M := ⟨ev, ns, la⟩) h3 h1 h2
      rw [t3, fdX_flat _ t t1] at e2
      cases e2
      exact ⟨e1, e3⟩)
    have HVA : Hid (ns.length = la.length → hasS ns xs = true → ∀ W, RkE ⟨ev, ns, la⟩ ad an al xs W → Calls Tryz.prog 36 #[.slice ad xs.length cap, .agg ev.c, .slice an ns.length cn, .slice al la.length cl] W fun e w' => e = .returned (.bool (t.val (vlv ⟨ev, ns, la⟩)).t) ∧ Below W.heap.size W w') := hide (fun h1 h2 W hr => by
      have := rValue_any (M := ⟨ev, ns, la⟩) (ad := ad) (an := an) (al := al) cap cn cl t (by rw [← t3]; exact t5) hln h1 t1 (by rw [t6, h3]; decide) (by rw [← t3]; exact h2) W (by rw [← t3]; exact hr)
      rw [← t3] at this
      exact this)
    rw [hev] at HVA
    generalize (t.val (vlv ⟨ev, ns, la⟩)).t = VT at *
    obtain ⟨D, hD⟩ : ∃ D, hdE xs ⟨ev, ns, la⟩ = D := ⟨_, rfl⟩
    obtain ⟨B, hB⟩ : ∃ B, hdB xs ⟨ev, ns, la⟩ = B := ⟨_, rfl⟩
    rw [hD, hB] at HN0 HOKK ⊢
    clear hD hB h3 t1 t2 t3 t6 hev
    go_enter Tryz.func20, Tryz.ntmps20
    go_wp2_with fail
    refine (unhide HCK).mono ?_
    rintro e w2 ⟨rfl, hb2⟩
    have k2 : Kp [] _ w2 := Kp.ofBelow hb2
    have HK2 := hide k2
    clear HCK hb2 k2
    by_cases hll : ns.length = la.length
    · have HNS : Hid (hasS ns xs = false → D = 5 ∧ B = false) := hide (fun h => unhide HN0 (Or.inr h))
      have HYS := hide (unhide HOKK hll)
      have HVV := hide (unhide HVA hll)
      rw [hll] at HVV ⊢
      have HLL := hide hll
      have hla : la.length ≤ 9223372036854775807 := by omega
      have HNO : Hid (∀ k (hk : k < xs.length), okS ns xs[k] = false → hasS ns xs = false) := hide (fun k hk hf => all_no hk hf)
      have HNX : Hid (∀ k (hk : k < xs.length), (xs.take k).all (okS ns) = true → okS ns xs[k] = true → (xs.take (k + 1)).all (okS ns) = true) := hide (fun k hk h hf => all_take_next h hk hf)
      have HYY : Hid ((xs.take xs.length).all (okS ns) = true → hasS ns xs = true) := hide (fun h => by rwa [List.take_length] at h)
      clear HN0 HOKK HVA hll
      go_wp2_with fail
      obtain ⟨n, hn⟩ : ∃ n, xs.length = n := ⟨_, rfl⟩
      have HN := hide hn
      rw [hn] at HYY HVV t5 ⊢
      clear hn
      obtain ⟨m, hm⟩ : ∃ m, la.length = m := ⟨_, rfl⟩
      have HM := hide hm
      rw [hm] at hla HVV ⊢
      clear hm hln
      go_loopw [12] (fun i wr => ∃ k : Nat, k ≤ n ∧ i = .int .i64 (k : Int) ∧ Kp [] w2 wr ∧ Hid ((xs.take k).all (okS ns) = true)) (fun i _ => n - (intOf i).toNat)
      case atStart => exact ⟨0, Nat.zero_le _, rfl, Kp.refl _ _, hide (by simp)⟩
      case round =>
        obtain ⟨k, hk, rfl, kp, HK⟩ := hrel
        by_cases hlt : k < n
        · have hkx : k < xs.length := by rw [unhide HN]; exact hlt
          have HFP := hide (fun W (hkp : Kp [] w2 W) => (unhide HL W ((unhide HK2).trans hkp (by simp))).2.2)
          obtain ⟨b, off, rfl, hbl, x0, x1, x2, x3, x4⟩ := (unhide (unhide HFP wr kp)).pts.at k hkx
          have hli : (k : Int) < (n : Int) := by omega
          have HPT : Hid (∀ W, Kp [] w2 W → W.cell? ⟨b, off + k * 5 + 3, none⟩ = some (.string xs[k].st)) := hide (fun W hkp => by
            obtain ⟨b', off', e, _, _, _, _, c3, _⟩ := (unhide (unhide HFP W hkp)).pts.at k hkx
            cases e
            exact c3)
          have HNO2 := hide (unhide HNO k hkx)
          have HNX2 := hide (unhide HNX k hkx (unhide HK))
          have hok : okS ns xs[k] = (emptyB xs[k].st || hasN ns xs[k].st) := rfl
          rw [hok] at HNO2 HNX2
          clear x0 x1 x2 x4 HNO HNX HYY hok HK
          generalize xs[k].st = st at *
          have HKP := hide kp
          have hes := emp_toList st
          have HF0 : Hid ((emptyB st || hasN (ns.take 0) st) = emptyB st) := hide (by rw [List.take_zero, hasN_none, Bool.or_false])
          have HFS : Hid (∀ j (hj : j < ns.length), (emptyB st || hasN (ns.take (j + 1)) st) = ((emptyB st || hasN (ns.take j) st) || (ns[j].toList == st.toList))) := hide (fun j hj => by rw [hasN_take hj, Bool.or_assoc])
          have HFM : Hid ((emptyB st || hasN (ns.take m) st) = (emptyB st || hasN ns st)) := hide (by rw [← unhide HM, ← unhide HLL, List.take_length])
          have HES := hide hes
          clear kp hes
          go_wp2_with fail
          rw [unhide HES]
          go_loopw [13, 14] (fun f i wx => ∃ j : Nat, j ≤ m ∧ i = .int .i64 (j : Int) ∧ f = .bool (emptyB st || hasN (ns.take j) st) ∧ Kp [] w2 wx) (fun _ i _ => m - (intOf i).toNat)
          case atStart => exact ⟨0, Nat.zero_le _, rfl, by rw [unhide HF0], unhide HKP⟩
          case round =>
            obtain ⟨j, hj, rfl, rfl, kpx⟩ := hrel
            have hes := unhide HFS j
            by_cases hjl : j < m
            · have hjn : j < ns.length := by rw [unhide HLL, unhide HM]; exact hjl
              have hne : ns ≠ [] := by rintro e; rw [e] at hjn; simp at hjn
              obtain ⟨b2, o2, rfl, _, hc2⟩ := (unhide (unhide HFP wr kpx)).nms hne
              have cj := hc2 j hjn
              have c3 := unhide HPT wr kpx
              have hji : (j : Int) < (m : Int) := by omega
              have HNF := hide (unhide HFS j hjn)
              have HKX := hide kpx
              clear hc2 hne hes kpx x3 HF0 HFM HNO2 HNX2 HKP
              generalize ns[j] = nm at *
              obtain ⟨F0, hF0⟩ : ∃ F0, (emptyB st || hasN (ns.take j) st) = F0 := ⟨_, rfl⟩
              rw [hF0] at HNF ⊢
              clear hF0
              cases F0 with
              | true =>
                rw [Bool.true_or] at HNF
                go_wp2_with fail
                go_quiet (fail)
                go_wp2
                go_roundw
                case rel => exact ⟨j + 1, by omega, by go_num, by rw [unhide HNF], (unhide HKX).trans (Kp.drewQ _ _) (by simp)⟩
                case measure => simp [intOf]; omega
              | false =>
                rw [Bool.false_or] at HNF
                go_wp2_with fail
                go_region
                go_wp2
                go_roundw
                case rel => exact ⟨j + 1, by omega, by go_num, by rw [unhide HNF], (unhide HKX).trans (Kp.drew _) (by simp)⟩
                case measure => simp [intOf]; omega
            · obtain rfl : j = m := by omega
              rw [unhide HFM]
              have HKX := hide kpx
              clear hes kpx x3 HF0 HFM HFS HKP HPT
              obtain ⟨F0, hF0⟩ : ∃ F0, (emptyB st || hasN ns st) = F0 := ⟨_, rfl⟩
              rw [hF0] at HNO2 HNX2 ⊢
              clear hF0
              cases F0 with
              | true =>
                have HX := hide (unhide HNX2 rfl)
                clear HNO2 HNX2
                go_wp2
                go_roundw
                case rel => exact ⟨k + 1, by omega, by go_num, unhide HKX, HX⟩
                case measure => simp [intOf]; omega
              | false =>
                obtain ⟨rfl, rfl⟩ := unhide HNS (unhide HNO2 rfl)
                obtain ⟨_, HB, _⟩ := unhide HL wr ((unhide HK2).trans (unhide HKX) (by simp))
                clear HNO2 HNX2 HYS HNS
                go_wp2
                exact bodyPost_ret (results_tmp2 rfl _ _ _) rfl ⟨rfl, unhide HB⟩
        · obtain rfl : k = n := by omega
          have hys := unhide HYY (unhide HK)
          obtain ⟨rfl, rfl⟩ := unhide HYS hys
          obtain ⟨eb, HB, HR⟩ := unhide HL wr ((unhide HK2).trans kp (by simp))
          obtain ⟨v0, v1, v2, v3, v4, v5, v6⟩ := eb.cells
          have VA := hide (unhide HVV hys wr (unhide HR))
          clear HVV HYS HYY HNS HNO HNX HK HR eb kp hys
          go_wp2_with fail
          refine (unhide VA).mono ?_
          rintro e w5 ⟨rfl, hb5⟩
          have HB5 := hide ((unhide HB).trans (hb5.mono (unhide HB).size))
          clear VA hb5 HB v0 v1 v2 v3 v4 v5 v6
          go_wp2
          exact bodyPost_ret (results_tmp2 rfl _ _ _) rfl ⟨rfl, unhide HB5⟩
    · have gl : ((ns.length : Int) == (la.length : Int)) = false := beq_eq_false_iff_ne.2 (by omega)
      obtain ⟨rfl, rfl⟩ := unhide HN0 (Or.inl hll)
      obtain ⟨_, HB, _⟩ := unhide HL w2 (unhide HK2)
      clear HN0 HOKK HVA HL HK2
      go_wp2
      exact bodyPost_ret (results_tmp2 rfl _ _ _) rfl ⟨rfl, unhide HB⟩
  · obtain ⟨q1, q2⟩ := hold_kind (M := ⟨ev, ns, la⟩) h3
    rw [q1, q2]
    clear q1 q2
    have g3 : (ckK xs == 3) = false := beq_eq_false_iff_ne.2 h3
    generalize ckK xs = ck at *
    by_cases h0 : ck = 0
    · subst h0
      rw [if_pos rfl] at HCK
      go_enter Tryz.func20, Tryz.ntmps20
      go_wp2_with fail
      refine (unhide HCK).mono ?_
      rintro e w2 ⟨rfl, hb2⟩
      obtain ⟨_, HB, _⟩ := unhide HL w2 (Kp.ofBelow hb2)
      clear HCK HL hb2
      go_wp2
      exact bodyPost_ret (results_tmp2 rfl _ _ _) rfl ⟨rfl, unhide HB⟩
    · rw [if_neg h0] at HCK
      go_enter Tryz.func20, Tryz.ntmps20
      go_wp2_with fail
      refine (unhide HCK).mono ?_
      rintro e w2 ⟨rfl, hb2⟩
      obtain ⟨_, HB, _⟩ := unhide HL w2 (Kp.ofBelow hb2)
      clear HCK HL hb2
      go_wp2
      exact bodyPost_ret (results_tmp2 rfl _ _ _) rfl ⟨rfl, unhide HB⟩
end Go.Proofs.YthipclehhcfahaaGreatDoor
namespace Go.Proofs.YthipclehhcfahaaGreatDoor
open Go.RowKit Go.Shelf

attribute [local irreducible] opsV
/-- The reader's cells. -/
def rdC (lv tk : Value) (k d : Nat) (pv : Value) : Array Value := #[lv] ++ opsV ++ #[tk, .int .i64 (k : Int), .int .i64 (d : Int), pv]
theorem rdC_hi (lv tk : Value) (k d : Nat) (pv : Value) (j : Nat) : (rdC lv tk k d pv)[71 + j]? = (#[tk, .int .i64 (k : Int), .int .i64 (d : Int), pv] : Array Value)[j]? := by
  unfold rdC
  rw [Array.getElem?_append_right (by rw [Array.size_append, opsV_size]; simp), Array.size_append, opsV_size]
  congr 1
  simp
theorem rdC_0 (lv tk : Value) (k d : Nat) (pv : Value) : (rdC lv tk k d pv)[0]? = some lv := by
  unfold rdC
  rw [Array.getElem?_append_left (by rw [Array.size_append, opsV_size]; simp), Array.getElem?_append_left (by simp)]
  rfl
theorem rdC_op (lv tk : Value) (k d : Nat) (pv : Value) (j : Nat) (h : j < 70) : (rdC lv tk k d pv)[1 + j]? = opsV[j]? := by
  unfold rdC
  rw [Array.getElem?_append_left (by rw [Array.size_append, opsV_size]; simp; omega), Array.getElem?_append_right (by simp)]
  congr 1
  simp
theorem rdC_71 (lv tk : Value) (k d : Nat) (pv : Value) : (rdC lv tk k d pv)[71]? = some tk := rdC_hi lv tk k d pv 0
theorem rdC_72 (lv tk : Value) (k d : Nat) (pv : Value) : (rdC lv tk k d pv)[72]? = some (.int .i64 (k : Int)) := rdC_hi lv tk k d pv 1
theorem rdC_73 (lv tk : Value) (k d : Nat) (pv : Value) : (rdC lv tk k d pv)[73]? = some (.int .i64 (d : Int)) := rdC_hi lv tk k d pv 2
theorem rdC_74 (lv tk : Value) (k d : Nat) (pv : Value) : (rdC lv tk k d pv)[74]? = some pv := rdC_hi lv tk k d pv 3
theorem opsV_len : opsV.toList.length = 70 := by rw [Array.length_toList]; exact opsV_size
theorem rdC_set (lv tk : Value) (k d : Nat) (pv v : Value) (j : Nat) : (rdC lv tk k d pv).setIfInBounds (71 + j) v = #[lv] ++ opsV ++ (#[tk, .int .i64 (k : Int), .int .i64 (d : Int), pv] : Array Value).setIfInBounds j v := by
  apply Array.ext'
  unfold rdC
  rw [Array.toList_setIfInBounds, Array.toList_append, Array.toList_append, Array.toList_append, Array.toList_append, Array.toList_setIfInBounds, List.set_append_right _ _ (by rw [List.length_append, opsV_len]; simp), List.length_append, opsV_len]
  congr 2
  simp
theorem rdC_k (lv tk : Value) (k k' d : Nat) (pv : Value) : (rdC lv tk k d pv).setIfInBounds 72 (.int .i64 (k' : Int)) = rdC lv tk k' d pv := rdC_set lv tk k d pv _ 1
theorem rdC_d (lv tk : Value) (k d d' : Nat) (pv : Value) : (rdC lv tk k d pv).setIfInBounds 73 (.int .i64 (d' : Int)) = rdC lv tk k d' pv := rdC_set lv tk k d pv _ 2
theorem rdC_p (lv tk : Value) (k d : Nat) (pv pv' : Value) : (rdC lv tk k d pv).setIfInBounds 74 pv' = rdC lv tk k d pv' := rdC_set lv tk k d pv _ 3
/-- The tokens lie below that block. -/
def TksLow (B : Nat) (W : World) (tk : Value) (l : List Tk) : Prop := ∃ b off cap, tk = .slice (some ⟨b, off, none⟩) l.length cap ∧ b < B ∧ ∀ i (h : i < l.length), W.cell? ⟨b, off + i * 4, none⟩ = some (.int .i64 l[i].kd) ∧ W.cell? ⟨b, off + i * 4 + 1, none⟩ = some (.string l[i].s) ∧ W.cell? ⟨b, off + i * 4 + 2, none⟩ = some (.int .i64 l[i].n) ∧ W.cell? ⟨b, off + i * 4 + 3, none⟩ = some (.int .i64 l[i].pl)
theorem TksLow.below {B : Nat} {W W' : World} {tk : Value} {l : List Tk} (h : TksLow B W tk l) (hb : Below B W W') : TksLow B W' tk l := by
  obtain ⟨b, off, cap, e, hlt, hc⟩ := h
  refine ⟨b, off, cap, e, hlt, fun i hi => ?_⟩
  obtain ⟨c0, c1, c2, c3⟩ := hc i hi
  exact ⟨(hb.cell (p := ⟨b, _, none⟩) hlt).trans c0, (hb.cell (p := ⟨b, _, none⟩) hlt).trans c1, (hb.cell (p := ⟨b, _, none⟩) hlt).trans c2, (hb.cell (p := ⟨b, _, none⟩) hlt).trans c3⟩
/-- Which function reads a level. -/
def lvF (n : Nat) : Nat := if n = 2 then 87 else if n = 3 then 88 else if n = 6 then 89 else 86
/-- A level's operations lie there. -/
def OpsLow (B : Nat) (W : World) (ov : Value) (os : List Int) : Prop := (os = [] ∧ ov = .slice none 0 0) ∨ ∃ b, ov = .slice (some ⟨b, 0, none⟩) os.length os.length ∧ b < B ∧ ∀ i (h : i < os.length), W.cell? ⟨b, i, none⟩ = some (.int .i64 os[i])
theorem OpsLow.below {B : Nat} {W W' : World} {ov : Value} {os : List Int} (h : OpsLow B W ov os) (hb : Below B W W') : OpsLow B W' ov os := by
  rcases h with h | ⟨b, e, hlt, hc⟩
  · exact Or.inl h
  · exact Or.inr ⟨b, e, hlt, fun i hi => (hb.cell (p := ⟨b, _, none⟩) hlt).trans (hc i hi)⟩
def LvsLow (B : Nat) (W : World) (lv : Value) : Prop := ∃ b, lv = .slice (some ⟨b, 0, none⟩) 7 7 ∧ b < B ∧ ∀ n, n < 7 → W.cell? ⟨b, n * 2, none⟩ = some (.func (.func (lvF n)) #[] #[]) ∧ ∃ ov, W.cell? ⟨b, n * 2 + 1, none⟩ = some ov ∧ OpsLow B W ov (lvO n)
theorem LvsLow.below {B : Nat} {W W' : World} {lv : Value} (h : LvsLow B W lv) (hb : Below B W W') : LvsLow B W' lv := by
  obtain ⟨b, e, hlt, hc⟩ := h
  refine ⟨b, e, hlt, fun n hn => ?_⟩
  obtain ⟨c0, ov, c1, c2⟩ := hc n hn
  exact ⟨(hb.cell (p := ⟨b, _, none⟩) hlt).trans c0, ov, (hb.cell (p := ⟨b, _, none⟩) hlt).trans c1, c2.below hb⟩
/-- What lies below the reader. -/
structure Env (gr : Nat) (lv tk : Value) (l : List Tk) (W : World) : Prop where
  tks : TksLow gr W tk l
  lvs : LvsLow gr W lv
  tab : TbE W
  low : 8 ≤ gr
  len : l.length ≤ 100000
  ok : ∀ t ∈ l, t.s.size ≤ 140737488351232
theorem Env.below {gr : Nat} {lv tk : Value} {l : List Tk} {W W' : World} (h : Env gr lv tk l W) (hb : Below gr W W') : Env gr lv tk l W' := ⟨h.tks.below hb, h.lvs.below hb, h.tab.below hb h.low, h.low, h.len, h.ok⟩
def ptE (p : Pt) : List Value := [.int .i64 p.kd, .int .i64 p.n, .string p.s, .string p.st, .int .i64 p.fl]
theorem ptE_len (p : Pt) : (ptE p).length = 5 := rfl
/-- The reader lies there: it stands at a token, so many deep, and has read these parts. -/
structure Rd (gr : Nat) (lv tk : Value) (l : List Tk) (k d : Nat) (ps : List Pt) (W : World) : Prop where
  env : Env gr lv tk l W
  box : ∃ pv, CBox gr (rdC lv tk k d pv) 133 W ∧ W.ownsRow (gr + 1) 53 5 pv ps.length (ps.flatMap ptE)
theorem Rd.below {gr : Nat} {lv tk : Value} {l : List Tk} {k d : Nat} {ps : List Pt} {W W' : World} (h : Rd gr lv tk l k d ps W) (hb : Below W.heap.size W W') : Rd gr lv tk l k d ps W' := by
  obtain ⟨pv, h1, h2⟩ := h.box
  have hlt := (Array.getElem?_eq_some_iff.1 h1).1
  have hk := Kp.ofBelow hb
  exact ⟨h.env.below (hb.mono (by omega)), pv, h1.kp hk (by simp), row_kp h2 hk (by simp)⟩
def wdS (t : Tk) : ByteArray := if t.kd = 1 ∨ t.kd = 4 then t.s else ⟨#[]⟩
theorem wdS_list (t : Tk) : (wdS t).data.toList = wdT t := by unfold wdS wdT; split <;> rfl
theorem drop_at {l : List Tk} {k : Nat} {t : Tk} {r : List Tk} (h : l.drop k = t :: r) : ∃ hk : k < l.length, l[k] = t ∧ l.drop (k + 1) = r := by
  have hk : k < l.length := by
    rcases Nat.lt_or_ge k l.length with h1 | h1
    · exact h1
    · rw [List.drop_eq_nil_of_le h1] at h; cases h
  rw [List.drop_eq_getElem_cons hk] at h
  cases h
  exact ⟨hk, rfl, rfl⟩
set_option maxHeartbeats 2000000 in
set_option maxRecDepth 100000 in
theorem word_any {gr : Nat} {lv tk : Value} {l : List Tk} {k d : Nat} {ps : List Pt} {W : World} (h : Rd gr lv tk l k d ps W) {t : Tk} {r : List Tk} (ht : l.drop k = t :: r) :
    Calls Tryz.prog 118 #[.pointer (some ⟨gr, 0, none⟩)] W fun e w' => e = .returned (.string (wdS t)) ∧ Below W.heap.size W w' := by
  obtain ⟨hk, ha, _⟩ := drop_at ht
  obtain ⟨pv, hb, _⟩ := h.box
  obtain ⟨b, off, cap, htk, hlt, hc⟩ := h.env.tks
  obtain ⟨c0, c1, c2, c3⟩ := hc k hk
  rw [ha] at c0 c1 c2 c3
  have hlen := h.env.len
  have hgl := (Array.getElem?_eq_some_iff.1 hb).1
  have e1 := hb.cell (rdC_71 lv tk k d pv)
  have e2 := hb.cell (rdC_72 lv tk k d pv)
  rw [htk] at e1
  clear h hb hc ha htk ht
  have al : ∀ {q : Addr} {v : Value}, W.cell? q = some v → q.block < W.heap.size → (W.alloc (.cells #[.int .i64 0, .string { data := #[] }, .int .i64 0, .int .i64 0] 92)).cell? q = some v := fun h _ => (Kp.alloc W _).cell h (by simp)
  have d0 := al c0 (by show b < _; omega)
  have d1 := al c1 (by show b < _; omega)
  have d2 := al c2 (by show b < _; omega)
  have d3 := al c3 (by show b < _; omega)
  have g1 := al e1 hgl
  have g2 := al e2 hgl
  clear al
  unfold wdS
  obtain ⟨kd, s, n, pl⟩ := t
  dsimp only at *
  go_enter Tryz.func118, Tryz.ntmps118
  go_wp2
  go_region
  clear c0 c1 c2 c3 d0 d1 d2 d3 e1 e2 g1 g2
  have hb : ∀ o, Below W.heap.size W (W.alloc o).drew := fun o => ((Below.refl _ _).alloc (Nat.le_refl _) _).trans ⟨rfl, rfl, rfl, Nat.le_refl _, fun _ _ => rfl⟩
  by_cases h1 : kd = 1
  · subst h1
    go_wp2
    exact bodyPost_ret (results_tmp rfl _ _ _) rfl ⟨rfl, hb _⟩
  · by_cases h4 : kd = 4
    · subst h4
      go_wp2
      exact bodyPost_ret (results_tmp rfl _ _ _) rfl ⟨rfl, hb _⟩
    · have g1 : (kd == 1) = false := beq_eq_false_iff_ne.2 h1
      have g4 : (kd == 4) = false := beq_eq_false_iff_ne.2 h4
      go_wp2
      exact bodyPost_ret (results_tmp rfl _ _ _) rfl ⟨by first | rfl | (rw [if_neg (by omega)]; rfl), hb _⟩
/-- One token on. -/
theorem Rd.next {gr : Nat} {lv tk : Value} {l : List Tk} {k d : Nat} {ps : List Pt} {W : World} (h : Rd gr lv tk l k d ps W) : Rd gr lv tk l (k + 1) d ps (W.setCell ⟨gr, 72, none⟩ (.int .i64 ((k : Int) + 1))) := by
  obtain ⟨pv, h1, h2⟩ := h.box
  have hlt := (Array.getElem?_eq_some_iff.1 h1).1
  have e : ((k : Int) + 1) = ((k + 1 : Nat) : Int) := by omega
  rw [e]
  have c := h1.set 72 (.int .i64 ((k + 1 : Nat) : Int))
  rw [rdC_k] at c
  exact ⟨h.env.below ((Kp.set W gr 72 _).below (by omega) (by simp)), pv, c, row_kp h2 (Kp.set _ _ _ _) (fun g hg => by have := (h2.lt g hg).1; simp; omega)⟩
theorem Rd.cells {gr : Nat} {lv tk : Value} {l : List Tk} {k d : Nat} {ps : List Pt} {W : World} (h : Rd gr lv tk l k d ps W) : W.cell? ⟨gr, 72, none⟩ = some (.int .i64 (k : Int)) ∧ W.cell? ⟨gr, 73, none⟩ = some (.int .i64 (d : Int)) ∧ (∀ i, W.frozen? ⟨gr, i, none⟩ = false) ∧ gr < W.heap.size := by
  obtain ⟨pv, h1, h2⟩ := h.box
  exact ⟨h1.cell (rdC_72 lv tk k d pv), h1.cell (rdC_73 lv tk k d pv), h1.froz, (Array.getElem?_eq_some_iff.1 h1).1⟩
set_option maxHeartbeats 2000000 in
set_option maxRecDepth 100000 in
theorem skip_any {gr : Nat} {lv tk : Value} {l : List Tk} {k d : Nat} {ps : List Pt} {W : World} (h : Rd gr lv tk l k d ps W) {t : Tk} {r : List Tk} (ht : l.drop k = t :: r) (sg : ByteArray) :
    Calls Tryz.prog 108 #[.pointer (some ⟨gr, 0, none⟩), .string sg] W fun e w' => e = .returned (.bool (decide (wdT t = sg.data.toList))) ∧ Rd gr lv tk l (if wdT t = sg.data.toList then k + 1 else k) d ps w' ∧ Below gr W w' := by
  have WD := hide (word_any h ht)
  have hk : k ≤ 100000 := by obtain ⟨hk, _⟩ := drop_at ht; have := h.env.len; omega
  have HR := hide h
  rw [← wdS_list]
  clear h ht
  generalize wdS t = S at *
  by_cases he : S.data.toList = sg.data.toList
  · have heq : (S.toList == sg.toList) = true := by rw [toList_data, toList_data, he]; exact beq_self_eq_true _
    rw [if_pos he, decide_eq_true he]
    clear he
    go_enter Tryz.func108, Tryz.ntmps108
    go_wp2_with fail
    refine (unhide WD).mono ?_
    rintro e w1 ⟨rfl, hb⟩
    have HR1 := hide ((unhide HR).below hb)
    obtain ⟨c72, _, f72, _⟩ := (unhide HR1).cells
    have HB := hide (hb.mono (show gr ≤ W.heap.size by have := (unhide HR).cells; omega))
    clear hb HR WD
    go_wp2
    refine bodyPost_ret (results_tmp rfl _ _ _) rfl ⟨rfl, (unhide HR1).next, (unhide HB).setCell (p := ⟨gr, 72, none⟩) (Nat.le_refl _) _⟩
  · have heq : (S.toList == sg.toList) = false := by rw [toList_data, toList_data]; exact beq_eq_false_iff_ne.2 he
    rw [if_neg he, decide_eq_false he]
    clear he
    go_enter Tryz.func108, Tryz.ntmps108
    go_wp2_with fail
    refine (unhide WD).mono ?_
    rintro e w1 ⟨rfl, hb⟩
    have HR1 := hide ((unhide HR).below hb)
    have HB := hide (hb.mono (show gr ≤ W.heap.size by have := (unhide HR).cells; omega))
    clear hb HR WD
    go_wp2
    exact bodyPost_ret (results_tmp rfl _ _ _) rfl ⟨rfl, unhide HR1, unhide HB⟩
end Go.Proofs.YthipclehhcfahaaGreatDoor
