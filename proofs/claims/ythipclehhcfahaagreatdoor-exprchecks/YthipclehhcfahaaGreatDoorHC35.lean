/-
  Holds: whether a condition holds, as the plain function has it.
  The document's Value and Holds are the plain functions'.
  The document's Holds is the plain function.
-/
import Derived.Test.YthipclehhcfahaaGreatDoorHC34
import Derived.Test.YthipclehhcfahaaGreatDoorHC30
import Derived.Deep.QuietTactic
namespace Go.Proofs.YthipclehhcfahaaGreatDoor
open Go.RowKit Go.Shelf

theorem hold_kind {x : List Pt} {M : Mo} (h : ckK x ≠ 3) : hdE x M = 110 ∧ hdB x M = false := by
  have e : hdE x M = 110 := by unfold hdE; rw [if_pos h]
  exact ⟨e, by unfold hdB; rw [if_pos (by rw [e]; decide)]⟩
theorem hold_none {x : List Pt} {M : Mo} (h : ckK x = 3) (h2 : M.ns.length ≠ M.la.length ∨ hasS M.ns x = false) : hdE x M = 5 ∧ hdB x M = false := by
  have e : hdE x M = 5 := by unfold hdE; rw [if_neg (by rw [h]; decide), if_pos h2]
  exact ⟨e, by unfold hdB; rw [if_pos (by rw [e]; decide)]⟩
theorem hold_ok {x : List Pt} {M : Mo} (h : ckK x = 3) (h1 : M.ns.length = M.la.length) (h2 : hasS M.ns x = true) : hdE x M = 0 ∧ ∃ v, fdX (vlv M) x = some v ∧ hdB x M = v.t := by
  have e : hdE x M = 0 := by unfold hdE; rw [if_neg (by rw [h]; decide), if_neg (by rw [h1, h2]; simp)]
  obtain ⟨t, t1, _, t3, _⟩ := ckK_leaves (x := x) (by rw [h]; decide)
  refine ⟨e, t.val (vlv M), by rw [t3]; exact fdX_flat _ t t1, ?_⟩
  unfold hdB
  rw [if_neg (by rw [e]; decide), t3, fdX_flat _ t t1]
set_option maxHeartbeats 2000000 in
set_option maxRecDepth 100000 in
theorem holds_any (ad an al : Option Addr) (cap cn cl : Nat) (xs : List Pt) (ev : Ev) (ns : List ByteArray) (la : List Ev) (w : World) (hc : PtsAt w ad xs) (hn : NmsAt w an ns) (hln : ns.length ≤ 9223372036854775807) (he : EvsAt w al la) (hT : TbE w) (hfit : ∀ p ∈ xs, p.fit) :
    Calls Tryz.prog 19 #[.slice ad xs.length cap, .agg ev.c, .slice an ns.length cn, .slice al la.length cl] w fun e w' => e = .returned (.tuple #[.bool (hdB xs ⟨ev, ns, la⟩), .int .i64 (hdE xs ⟨ev, ns, la⟩)]) ∧ Below w.heap.size w w' := by
  have hev : ev.c = #[.string ev.k, .string ev.t, .int .i64 ev.n0, .int .i64 ev.n1, .int .i64 ev.n2, .int .i64 ev.n3, .string ev.x] := rfl
  have b1 : Below w.heap.size w (w.alloc (.cells ev.c 37)) := (Below.refl _ _).alloc (Nat.le_refl _) _
  have e1 : EBox w.heap.size ev (w.alloc (.cells ev.c 37)) := CBox.new w _ _
  have CK := check_any ad cap xs _ (hc.kp (Kp.alloc w (.cells ev.c 37))) (hT.alloc (.cells ev.c 37)) hfit
  have HL : Hid (∀ w2, Below (w.alloc (.cells ev.c 37)).heap.size (w.alloc (.cells ev.c 37)) w2 → EBox w.heap.size ev w2 ∧ Hid (Below w.heap.size w w2) ∧ Hid (PtsAt w2 ad xs ∧ NmsAt w2 an ns ∧ EvsAt w2 al la)) := hide (fun w2 hb => ⟨e1.below hb e1.lt, hide (b1.trans (hb.mono (by simp))), hide ⟨(hc.kp (Kp.alloc w (.cells ev.c 37))).kp (Kp.ofBelow hb), (hn.kp (Kp.alloc w (.cells ev.c 37)) (by simp)).kp (Kp.ofBelow hb) (by simp), (he.kp (Kp.alloc w (.cells ev.c 37)) (by simp)).kp (Kp.ofBelow hb) (by simp)⟩⟩)
  rw [hev] at CK HL
  have HCK := hide CK
  clear CK b1 e1 hc hn he hT
  rw [hev]
  clear hev
  by_cases h3 : ckK xs = 3
  · have hcode : (if ckK xs = 0 then (110 : Int) else 0) = 0 := if_neg (by rw [h3]; decide)
    rw [hcode, h3] at HCK
    clear hcode
    obtain ⟨t, t1, t2, t3, _, t5, _⟩ := ckK_leaves (x := xs) (by rw [h3]; decide)
    have HLV : Hid (∀ q ∈ xs, sds q.kd = 0 → lfK q ≠ 0) := hide (by rw [t3]; exact t.fine_leaves t2)
    clear t1 t2 t3
    have HN0 : Hid (ns.length ≠ la.length ∨ hasS ns xs = false → hdE xs ⟨ev, ns, la⟩ = 5 ∧ hdB xs ⟨ev, ns, la⟩ = false) := hide (fun h => hold_none h3 h)
    have HOKK : Hid (ns.length = la.length → hasS ns xs = true → hdE xs ⟨ev, ns, la⟩ = 0 ∧ ∃ v, fdX (vlv ⟨ev, ns, la⟩) xs = some v ∧ hdB xs ⟨ev, ns, la⟩ = v.t) := hide (fun h1 h2 => hold_ok h3 h1 h2)
    obtain ⟨D, hD⟩ : ∃ D, hdE xs ⟨ev, ns, la⟩ = D := ⟨_, rfl⟩
    obtain ⟨B, hB⟩ : ∃ B, hdB xs ⟨ev, ns, la⟩ = B := ⟨_, rfl⟩
    rw [hD, hB] at HN0 HOKK ⊢
    clear hD hB h3
    go_enter Tryz.func19, Tryz.ntmps19
    go_wp2_with fail
    refine (unhide HCK).mono ?_
    rintro e w2 ⟨rfl, hb2⟩
    obtain ⟨eb, HB, HAT⟩ := unhide HL w2 hb2
    obtain ⟨v0, v1, v2, v3, v4, v5, v6⟩ := eb.cells
    have hlt := eb.lt
    clear HCK HL hb2 eb hfit
    by_cases hll : ns.length = la.length
    · have gl : ((ns.length : Int) == (la.length : Int)) = true := by rw [hll]; exact beq_self_eq_true _
      obtain ⟨hA, hN, hE⟩ := unhide HAT
      have k2 : Kp [] w2 (w2.alloc (.cells (moC ⟨ev, ns, la⟩ (.slice an ns.length cn) (.slice al la.length cl)) 79)) := Kp.alloc _ _
      have bx : CBox w2.heap.size (moC ⟨ev, ns, la⟩ (.slice an ns.length cn) (.slice al la.length cl)) 79 (w2.alloc (.cells (moC ⟨ev, ns, la⟩ (.slice an ns.length cn) (.slice al la.length cl)) 79)) := CBox.new w2 _ _
      have hM : MoAt w2.heap.size ⟨ev, ns, la⟩ an al cn cl (w2.alloc (.cells (moC ⟨ev, ns, la⟩ (.slice an ns.length cn) (.slice al la.length cl)) 79)) := ⟨bx, hN.kp k2 (by simp), hE.kp k2 (by simp), hln, hll⟩
      have HS := hasStages_any (M := ⟨ev, ns, la⟩) ad cap xs t5 _ (hA.kp k2) bx rfl hln (hN.kp k2 (by simp))
      have HB3 := hide ((unhide HB).alloc (unhide HB).size (.cells (moC ⟨ev, ns, la⟩ (.slice an ns.length cn) (.slice al la.length cl)) 79))
      have HFV : Hid (hasS ns xs = true → ∀ w3, Below (w2.alloc (.cells (moC ⟨ev, ns, la⟩ (.slice an ns.length cn) (.slice al la.length cl)) 79)).heap.size (w2.alloc (.cells (moC ⟨ev, ns, la⟩ (.slice an ns.length cn) (.slice al la.length cl)) 79)) w3 → Calls Tryz.prog 34 #[.slice ad xs.length cap, .func (.func 35) #[.pointer (some ⟨w2.heap.size, 0, none⟩)] #[]] w3 fun e w' => e = .returned (foRV (fdX (vlv ⟨ev, ns, la⟩) xs)) ∧ Below w3.heap.size w3 w') := hide (fun hs w3 hb3 => fold_values (M := ⟨ev, ns, la⟩) ad cap xs t5 w3 ((hA.kp k2).kp (Kp.ofBelow hb3)) (hM.below hb3) (unhide HLV) hs)
      have HHS : Hid (Calls Tryz.prog 33 #[.pointer (some ⟨w2.heap.size, 0, none⟩), .slice ad xs.length cap] (w2.alloc (.cells (moC ⟨ev, ns, la⟩ (.slice an ns.length cn) (.slice al la.length cl)) 79)) fun e w' => e = .returned (.bool (hasS ns xs)) ∧ Below (w2.alloc (.cells (moC ⟨ev, ns, la⟩ (.slice an ns.length cn) (.slice al la.length cl)) 79)).heap.size (w2.alloc (.cells (moC ⟨ev, ns, la⟩ (.slice an ns.length cn) (.slice al la.length cl)) 79)) w') := hide HS
      have HOK2 := hide (unhide HOKK hll)
      have HNO2 : Hid (hasS ns xs = false → D = 5 ∧ B = false) := hide (fun h => unhide HN0 (Or.inr h))
      clear HAT hA hN hE k2 bx hM HS HN0 HOKK HLV HB
      unfold moC at HHS HFV HB3
      dsimp only at HHS HFV HB3
      rw [hll] at HHS HFV HB3 ⊢
      clear gl
      generalize fdX (vlv ⟨ev, ns, la⟩) xs = FX at *
      generalize hasS ns xs = SB at *
      go_wp2_with fail
      refine (unhide HHS).mono ?_
      rintro e w3 ⟨rfl, hb3⟩
      have HB4 := hide ((unhide HB3).trans (hb3.mono (unhide HB3).size))
      cases SB with
      | false =>
        obtain ⟨rfl, rfl⟩ := unhide HNO2 rfl
        clear HOK2 HNO2 HFV HHS HB3 hb3
        go_wp2
        exact bodyPost_ret (results_tmp2 rfl _ _ _) rfl ⟨rfl, unhide HB4⟩
      | true =>
        have FV := hide (unhide HFV rfl w3 hb3)
        obtain ⟨rfl, v, hv, rfl⟩ := unhide HOK2 rfl
        rw [hv] at FV
        unfold foRV vlE at FV
        dsimp only at FV
        clear HOK2 HNO2 HFV HHS HB3 hb3 hv
        obtain ⟨vn, vs, vt⟩ := v
        dsimp only at FV ⊢
        go_wp2_with fail
        refine (unhide FV).mono ?_
        rintro e w4 ⟨rfl, hb4⟩
        have HB5 := hide (((unhide HB4).trans (hb4.mono (unhide HB4).size)).alloc (by have := (unhide HB4).size; have := hb4.size; omega) (.cells #[.int .i64 vn, .string vs, .bool vt] 81))
        clear hb4 HB4 FV
        go_wp2
        exact bodyPost_ret (results_tmp2 rfl _ _ _) rfl ⟨rfl, unhide HB5⟩
    · have gl : ((ns.length : Int) == (la.length : Int)) = false := beq_eq_false_iff_ne.2 (by omega)
      obtain ⟨rfl, rfl⟩ := unhide HN0 (Or.inl hll)
      have HB3 := hide ((unhide HB).alloc (unhide HB).size (.cells (moC ⟨ev, ns, la⟩ (.slice an ns.length cn) (.slice al la.length cl)) 79))
      clear HN0 HOKK HAT HLV HB
      go_wp2
      exact bodyPost_ret (results_tmp2 rfl _ _ _) rfl ⟨rfl, unhide HB3⟩
  · obtain ⟨q1, q2⟩ := hold_kind (M := ⟨ev, ns, la⟩) h3
    rw [q1, q2]
    clear q1 q2
    have g3 : (ckK xs == 3) = false := beq_eq_false_iff_ne.2 h3
    generalize (if ckK xs = 0 then (110 : Int) else 0) = EC at *
    generalize ckK xs = ck at *
    go_enter Tryz.func19, Tryz.ntmps19
    go_wp2_with fail
    refine (unhide HCK).mono ?_
    rintro e w2 ⟨rfl, hb2⟩
    obtain ⟨eb, HB, HAT⟩ := unhide HL w2 hb2
    clear HCK HL hb2 eb hfit
    go_wp2
    exact bodyPost_ret (results_tmp2 rfl _ _ _) rfl ⟨rfl, unhide HB⟩
end Go.Proofs.YthipclehhcfahaaGreatDoor
namespace Go.Proofs.YthipclehhcfahaaGreatDoor
open Go.RowKit Go.Shelf

/-- Numbers and texts are no truths. -/
theorem val_t0 (M : Mo) (t : Ex) (hw : t.wf) (h : t.kd = 1 ∨ t.kd = 2) : (t.val (vlv M)).t = false := by
  cases t with
  | lf p =>
    show (lfV M p).t = false
    unfold lfV fdV
    repeat' split
    all_goals rfl
  | un p a =>
    exfalso
    have h13 := sds_one hw.1
    have e : (Ex.un p a).kd = if bareP p then opK p.kd a.kd 0 else 0 := rfl
    rw [e, h13] at h
    unfold opK at h
    simp at h
    repeat' split at h
    all_goals omega
  | bi p a b =>
    have h2 := sds_two hw.1
    have e : (Ex.bi p a b).kd = if bareP p then opK p.kd a.kd b.kd else 0 := rfl
    rw [e] at h
    show (opV p.kd (a.val (vlv M)) (b.val (vlv M))).t = false
    by_cases hk : p.kd ≤ 6
    · unfold opV
      rcases (show p.kd = 4 ∨ p.kd = 5 ∨ p.kd = 6 by omega) with e | e | e
      · rw [if_pos e]
      · rw [if_neg (by omega), if_pos e]
      · rw [if_neg (by omega), if_neg (by omega), if_pos e]
    · exfalso
      split at h
      · unfold opK at h
        rw [if_neg (by omega)] at h
        repeat' split at h
        all_goals omega
      · omega
theorem opK_eq {k a b : Int} (hk : k = 9 ∨ k = 10) (h : opK k a b ≠ 0) : a = b ∧ (a = 1 ∨ a = 2) := by
  unfold opK at h
  rw [if_neg (by omega), if_neg (by omega), if_pos (by omega)] at h
  split at h
  · assumption
  · exact absurd rfl h
theorem reckon_tree {M : Mo} {ad an al : Option Addr} (cap cn cl : Nat) (xs : List Pt) (hx : xs.length ≤ 200) (hln : M.ns.length ≤ 9223372036854775807) (hbo : M.ns.length = M.la.length) (t : Ex) : t.wf → t.kd ≠ 0 → hasS M.ns t.flat = true → ∀ (pre rest : List Pt), xs = pre ++ (t.flat ++ rest) → ∀ w, RkE M ad an al xs w →
    Calls Tryz.prog 55 #[.slice ad xs.length cap, .int .i64 (pre.length : Int), .agg M.e.c, .slice an M.ns.length cn, .slice al M.la.length cl] w (RkT w (t.val (vlv M)) (pre.length + t.flat.length)) := by
  induction t with
  | lf p =>
    intro hw hk hs pre rest hxs w h
    unfold hasS at hs
    simp only [Ex.flat, List.all_cons, List.all_nil, Bool.and_true, Bool.or_eq_true] at hs
    exact reckon_leaf cap cn cl xs pre p rest hxs hx hln hbo hk hs w h
  | un p a ih =>
    intro hw hk hs pre rest hxs w h
    have h13 := sds_one hw.1
    have e : (Ex.un p a).kd = if bareP p then opK p.kd a.kd 0 else 0 := rfl
    have hb : bareP p = true := by
      cases hb : bareP p with
      | true => rfl
      | false => rw [e, hb] at hk; exact absurd rfl hk
    rw [e, hb, if_pos rfl] at hk
    have ha : a.kd ≠ 0 := fun h => hk (by rw [h]; exact opK_zero _ _)
    rw [Ex.flat, List.cons_append] at hxs
    obtain ⟨hat, hp⟩ := mid_get pre p _ xs hxs
    have hs2 : hasS M.ns a.flat = true := by
      unfold hasS at hs ⊢
      rw [Ex.flat, List.all_cons, Bool.and_eq_true] at hs
      exact hs.2
    have C1 := ih hw.2 ha hs2 (pre ++ [p]) rest (by rw [hxs]; simp)
    rw [List.length_append, List.length_singleton] at C1
    have := reckon_not cap cn cl xs pre.length (pre.length + 1 + a.flat.length) (a.val (vlv M)) hx hat (by rw [hp]; exact h13) C1 w h
    have ev : (Ex.un p a).val (vlv M) = ⟨0, noB, !(a.val (vlv M)).t⟩ := by
      show opV p.kd (a.val (vlv M)) ⟨0, noB, false⟩ = _
      rw [h13]
      rfl
    rw [ev]
    have el : pre.length + (Ex.un p a).flat.length = pre.length + 1 + a.flat.length := by rw [Ex.flat, List.length_cons]; omega
    rw [el]
    exact this
  | bi p a b iha ihb =>
    intro hw hk hs pre rest hxs w h
    have h2 := sds_two hw.1
    have e : (Ex.bi p a b).kd = if bareP p then opK p.kd a.kd b.kd else 0 := rfl
    have hb : bareP p = true := by
      cases hb : bareP p with
      | true => rfl
      | false => rw [e, hb] at hk; exact absurd rfl hk
    rw [e, hb, if_pos rfl] at hk
    have ha : a.kd ≠ 0 := fun h => hk (by rw [h]; exact opK_zero _ _)
    have hbb : b.kd ≠ 0 := fun h => hk (by rw [h]; exact opK_zero2 _ _ (by omega))
    rw [Ex.flat, List.cons_append, List.append_assoc] at hxs
    obtain ⟨hat, hp⟩ := mid_get pre p _ xs hxs
    have hs2 : hasS M.ns a.flat = true ∧ hasS M.ns b.flat = true := by
      unfold hasS at hs ⊢
      rw [Ex.flat, List.all_cons, Bool.and_eq_true, List.all_append, Bool.and_eq_true] at hs
      exact hs.2
    have C1 := iha hw.2.1 ha hs2.1 (pre ++ [p]) (b.flat ++ rest) (by rw [hxs]; simp)
    have C2 := ihb hw.2.2 hbb hs2.2 (pre ++ p :: a.flat) rest (by rw [hxs]; simp)
    rw [List.length_append, List.length_singleton] at C1
    have el2 : (pre ++ p :: a.flat).length = pre.length + 1 + a.flat.length := by rw [List.length_append, List.length_cons]; omega
    rw [el2] at C2
    have := reckon_two cap cn cl xs pre.length (pre.length + 1 + a.flat.length) (pre.length + 1 + a.flat.length + b.flat.length) (a.val (vlv M)) (b.val (vlv M)) hx hat (by rw [hp]; omega) (by rw [hp]; omega) (fun hq => by
      rw [hp] at hq
      obtain ⟨e1, e2⟩ := opK_eq hq hk
      rw [val_t0 M a hw.2.1 e2, val_t0 M b hw.2.2 (by rw [← e1]; exact e2)]) C1 C2 w h
    rw [hp] at this
    have el : pre.length + (Ex.bi p a b).flat.length = pre.length + 1 + a.flat.length + b.flat.length := by rw [Ex.flat, List.length_cons, List.length_append]; omega
    rw [el]
    exact this
set_option maxHeartbeats 1000000 in
set_option maxRecDepth 100000 in
theorem rValue_any {M : Mo} {ad an al : Option Addr} (cap cn cl : Nat) (t : Ex) (hx : t.flat.length ≤ 200) (hln : M.ns.length ≤ 9223372036854775807) (hbo : M.ns.length = M.la.length) (hw : t.wf) (hk : t.kd ≠ 0) (hs : hasS M.ns t.flat = true) (w : World) (h : RkE M ad an al t.flat w) :
    Calls Tryz.prog 36 #[.slice ad t.flat.length cap, .agg M.e.c, .slice an M.ns.length cn, .slice al M.la.length cl] w fun e w' => e = .returned (.bool (t.val (vlv M)).t) ∧ Below w.heap.size w w' := by
  have RK := reckon_tree cap cn cl t.flat hx hln hbo t hw hk hs [] [] (by simp) _ (h.kp (Kp.alloc w (.cells M.e.c 37)))
  have hev : M.e.c = #[.string M.e.k, .string M.e.t, .int .i64 M.e.n0, .int .i64 M.e.n1, .int .i64 M.e.n2, .int .i64 M.e.n3, .string M.e.x] := rfl
  have eb : EBox w.heap.size M.e (w.alloc (.cells M.e.c 37)) := CBox.new w _ _
  have hb0 : Below w.heap.size w (w.alloc (.cells M.e.c 37)) := (Below.refl _ _).alloc (Nat.le_refl _) _
  rw [List.length_nil] at RK
  unfold RkT at RK
  rw [hev] at RK eb hb0 ⊢
  obtain ⟨v0, v1, v2, v3, v4, v5, v6⟩ := eb.cells
  have HRK := hide RK
  have HB0 := hide hb0
  clear RK hev eb hb0 h hw hk hs hbo
  generalize t.val (vlv M) = V at *
  generalize 0 + t.flat.length = EE at *
  obtain ⟨vn, vs, vt⟩ := V
  unfold Vl.v at HRK
  dsimp only at *
  go_enter Tryz.func36, Tryz.ntmps36
  go_wp2_with fail
  refine (unhide HRK).mono ?_
  rintro e w1 ⟨rfl, hb1⟩
  have HB1 := hide (((unhide HB0).trans (hb1.mono (unhide HB0).size)).alloc (by have := (unhide HB0).size; have := hb1.size; omega) (.cells #[.int .i64 vn, .string vs, .bool vt] 124))
  clear HRK hb1 HB0 v0 v1 v2 v3 v4 v5 v6
  go_wp2
  go_ret
  exact ⟨rfl, unhide HB1⟩
end Go.Proofs.YthipclehhcfahaaGreatDoor
namespace Go.Proofs.YthipclehhcfahaaGreatDoor
open Go.RowKit Go.Shelf

theorem hasN_take {ns : List ByteArray} {k : Nat} (h : k < ns.length) (st : ByteArray) : hasN (ns.take (k + 1)) st = (hasN (ns.take k) st || (ns[k].toList == st.toList)) := by
  rw [Bool.eq_iff_iff, Bool.or_eq_true, hasN_iff, hasN_iff, List.take_succ_eq_append_getElem h, List.mem_append, List.mem_singleton, toList_data, toList_data, beq_iff_eq, data_inj]
  constructor
  · rintro (h | h)
    · exact Or.inl h
    · exact Or.inr h.symm
  · rintro (h | h)
    · exact Or.inl h
    · exact Or.inr h.symm
theorem hasN_none (st : ByteArray) : hasN ([] : List ByteArray) st = false := by
  unfold hasN
  simp
set_option maxHeartbeats 4000000 in
set_option maxRecDepth 100000 in
theorem rHolds_any (ad an al : Option Addr) (cap cn cl : Nat) (xs : List Pt) (ev : Ev) (ns : List ByteArray) (la : List Ev) (w : World) (hc : PtsAt w ad xs) (hn : NmsAt w an ns) (hln : ns.length ≤ 9223372036854775807) (he : EvsAt w al la) (hs : ∀ p ∈ xs, p.s.size ≤ 140737488351232 ∧ p.st.size ≤ 9223372036854775807) :
    Calls Tryz.prog 20 #[.slice ad xs.length cap, .agg ev.c, .slice an ns.length cn, .slice al la.length cl] w fun e w' => e = .returned (.tuple #[.bool (hdB xs ⟨ev, ns, la⟩), .int .i64 (hdE xs ⟨ev, ns, la⟩)]) ∧ Below w.heap.size w w' := by
  have hev : ev.c = #[.string ev.k, .string ev.t, .int .i64 ev.n0, .int .i64 ev.n1, .int .i64 ev.n2, .int .i64 ev.n3, .string ev.x] := rfl
  have b1 : Below w.heap.size w (w.alloc (.cells ev.c 37)) := (Below.refl _ _).alloc (Nat.le_refl _) _
  have e1 : EBox w.heap.size ev (w.alloc (.cells ev.c 37)) := CBox.new w _ _
  have CK := rCheck_any ad cap xs _ (hc.kp (Kp.alloc w (.cells ev.c 37))) hs
  have HL : Hid (∀ w2, Kp [] (w.alloc (.cells ev.c 37)) w2 → EBox w.heap.size ev w2 ∧ Hid (Below w.heap.size w w2) ∧ Hid (RkE ⟨ev, ns, la⟩ ad an al xs w2)) := hide (fun w2 hb => ⟨CBox.kp e1 hb (by simp), hide (b1.trans (hb.below (by simp) (by simp))), hide ⟨(hc.kp (Kp.alloc w (.cells ev.c 37))).kp hb, (hn.kp (Kp.alloc w (.cells ev.c 37)) (by simp)).kp hb (by simp), (he.kp (Kp.alloc w (.cells ev.c 37)) (by simp)).kp hb (by simp)⟩⟩)
  rw [hev] at CK HL
  have HCK := hide CK
  clear CK b1 e1 hc hn he hs
  rw [hev]
  by_cases h3 : ckK xs = 3
  · have hcode : (if ckK xs = 0 then (110 : Int) else 0) = 0 := if_neg (by rw [h3]; decide)
    rw [hcode, h3] at HCK
    clear hcode
    obtain ⟨t, t1, t2, t3, _, t5, t6⟩ := ckK_leaves (x := xs) (by rw [h3]; decide)
    have HN0 : Hid (ns.length ≠ la.length ∨ hasS ns xs = false → hdE xs ⟨ev, ns, la⟩ = 5 ∧ hdB xs ⟨ev, ns, la⟩ = false) := hide (fun h => hold_none h3 h)
    have HOKK : Hid (ns.length = la.length → hasS ns xs = true → hdE xs ⟨ev, ns, la⟩ = 0 ∧ hdB xs ⟨ev, ns, la⟩ = (t.val (vlv ⟨ev, ns, la⟩)).t) := hide (fun h1 h2 => by
      obtain ⟨e1, v, e2, e3⟩ := hold_ok (M := ⟨ev, ns, la⟩) h3 h1 h2
      rw [t3, fdX_flat _ t t1] at e2
      cases e2
      exact ⟨e1, e3⟩)
    have HVA : Hid (ns.length = la.length → hasS ns xs = true → ∀ W, RkE ⟨ev, ns, la⟩ ad an al xs W → Calls Tryz.prog 36 #[.slice ad xs.length cap, .agg ev.c, .slice an ns.length cn, .slice al la.length cl] W fun e w' => e = .returned (.bool (t.val (vlv ⟨ev, ns, la⟩)).t) ∧ Below W.heap.size W w') := hide (fun h1 h2 W hr => by
      have := rValue_any (M := ⟨ev, ns, la⟩) (ad := ad) (an := an) (al := al) cap cn cl t (by rw [← t3]; exact t5) hln h1 t1 (by rw [t6, h3]; decide) (by rw [← t3]; exact h2) W (by rw [← t3]; exact hr)
      rw [← t3] at this
      exact this)
    rw [hev] at HVA
    generalize (t.val (vlv ⟨ev, ns, la⟩)).t = VT at *
    obtain ⟨D, hD⟩ : ∃ D, hdE xs ⟨ev, ns, la⟩ = D := ⟨_, rfl⟩
    obtain ⟨B, hB⟩ : ∃ B, hdB xs ⟨ev, ns, la⟩ = B := ⟨_, rfl⟩
    rw [hD, hB] at HN0 HOKK ⊢
    clear hD hB h3 t1 t2 t3 t6 hev
    go_enter Tryz.func20, Tryz.ntmps20
    go_wp2_with fail
    refine (unhide HCK).mono ?_
    rintro e w2 ⟨rfl, hb2⟩
    have k2 : Kp [] _ w2 := Kp.ofBelow hb2
    have HK2 := hide k2
    clear HCK hb2 k2
    by_cases hll : ns.length = la.length
    · have HNS : Hid (hasS ns xs = false → D = 5 ∧ B = false) := hide (fun h => unhide HN0 (Or.inr h))
      have HYS := hide (unhide HOKK hll)
      have HVV := hide (unhide HVA hll)
      rw [hll] at HVV ⊢
      have HLL := hide hll
      have hla : la.length ≤ 9223372036854775807 := by omega
      have HNO : Hid (∀ k (hk : k < xs.length), okS ns xs[k] = false → hasS ns xs = false) := hide (fun k hk hf => all_no hk hf)
      have HNX : Hid (∀ k (hk : k < xs.length), (xs.take k).all (okS ns) = true → okS ns xs[k] = true → (xs.take (k + 1)).all (okS ns) = true) := hide (fun k hk h hf => all_take_next h hk hf)
      have HYY : Hid ((xs.take xs.length).all (okS ns) = true → hasS ns xs = true) := hide (fun h => by rwa [List.take_length] at h)
      clear HN0 HOKK HVA hll
      go_wp2_with fail
      obtain ⟨n, hn⟩ : ∃ n, xs.length = n := ⟨_, rfl⟩
      have HN := hide hn
      rw [hn] at HYY HVV t5 ⊢
      clear hn
      obtain ⟨m, hm⟩ : ∃ m, la.length = m := ⟨_, rfl⟩
      have HM := hide hm
      rw [hm] at hla HVV ⊢
      clear hm hln
      go_loopw [12] (fun i wr => ∃ k : Nat, k ≤ n ∧ i = .int .i64 (k : Int) ∧ Kp [] w2 wr ∧ Hid ((xs.take k).all (okS ns) = true)) (fun i _ => n - (intOf i).toNat)
      case atStart => exact ⟨0, Nat.zero_le _, rfl, Kp.refl _ _, hide (by simp)⟩
      case round =>
        obtain ⟨k, hk, rfl, kp, HK⟩ := hrel
        by_cases hlt : k < n
        · have hkx : k < xs.length := by rw [unhide HN]; exact hlt
          have HFP := hide (fun W (hkp : Kp [] w2 W) => (unhide HL W ((unhide HK2).trans hkp (by simp))).2.2)
          obtain ⟨b, off, rfl, hbl, x0, x1, x2, x3, x4⟩ := (unhide (unhide HFP wr kp)).pts.at k hkx
          have hli : (k : Int) < (n : Int) := by omega
          have HPT : Hid (∀ W, Kp [] w2 W → W.cell? ⟨b, off + k * 5 + 3, none⟩ = some (.string xs[k].st)) := hide (fun W hkp => by
            obtain ⟨b', off', e, _, _, _, _, c3, _⟩ := (unhide (unhide HFP W hkp)).pts.at k hkx
            cases e
            exact c3)
          have HNO2 := hide (unhide HNO k hkx)
          have HNX2 := hide (unhide HNX k hkx (unhide HK))
          have hok : okS ns xs[k] = (emptyB xs[k].st || hasN ns xs[k].st) := rfl
          rw [hok] at HNO2 HNX2
          clear x0 x1 x2 x4 HNO HNX HYY hok HK
          generalize xs[k].st = st at *
          have HKP := hide kp
          have hes := emp_toList st
          have HF0 : Hid ((emptyB st || hasN (ns.take 0) st) = emptyB st) := hide (by rw [List.take_zero, hasN_none, Bool.or_false])
          have HFS : Hid (∀ j (hj : j < ns.length), (emptyB st || hasN (ns.take (j + 1)) st) = ((emptyB st || hasN (ns.take j) st) || (ns[j].toList == st.toList))) := hide (fun j hj => by rw [hasN_take hj, Bool.or_assoc])
          have HFM : Hid ((emptyB st || hasN (ns.take m) st) = (emptyB st || hasN ns st)) := hide (by rw [← unhide HM, ← unhide HLL, List.take_length])
          have HES := hide hes
          clear kp hes
          go_wp2_with fail
          rw [unhide HES]
          go_loopw [13, 14] (fun f i wx => ∃ j : Nat, j ≤ m ∧ i = .int .i64 (j : Int) ∧ f = .bool (emptyB st || hasN (ns.take j) st) ∧ Kp [] w2 wx) (fun _ i _ => m - (intOf i).toNat)
          case atStart => exact ⟨0, Nat.zero_le _, rfl, by rw [unhide HF0], unhide HKP⟩
          case round =>
            obtain ⟨j, hj, rfl, rfl, kpx⟩ := hrel
            have hes := unhide HFS j
            by_cases hjl : j < m
            · have hjn : j < ns.length := by rw [unhide HLL, unhide HM]; exact hjl
              have hne : ns ≠ [] := by rintro e; rw [e] at hjn; simp at hjn
              obtain ⟨b2, o2, rfl, _, hc2⟩ := (unhide (unhide HFP wr kpx)).nms hne
              have cj := hc2 j hjn
              have c3 := unhide HPT wr kpx
              have hji : (j : Int) < (m : Int) := by omega
              have HNF := hide (unhide HFS j hjn)
              have HKX := hide kpx
              clear hc2 hne hes kpx x3 HF0 HFM HNO2 HNX2 HKP
              generalize ns[j] = nm at *
              obtain ⟨F0, hF0⟩ : ∃ F0, (emptyB st || hasN (ns.take j) st) = F0 := ⟨_, rfl⟩
              rw [hF0] at HNF ⊢
              clear hF0
              cases F0 with
              | true =>
                rw [Bool.true_or] at HNF
                go_wp2_with fail
                go_quiet (fail)
                go_wp2
                go_roundw
                case rel => exact ⟨j + 1, by omega, by go_num, by rw [unhide HNF], (unhide HKX).trans (Kp.drewQ _ _) (by simp)⟩
                case measure => simp [intOf]; omega
              | false =>
                rw [Bool.false_or] at HNF
                go_wp2_with fail
                go_region
                go_wp2
                go_roundw
                case rel => exact ⟨j + 1, by omega, by go_num, by rw [unhide HNF], (unhide HKX).trans (Kp.drew _) (by simp)⟩
                case measure => simp [intOf]; omega
            · obtain rfl : j = m := by omega
              rw [unhide HFM]
              have HKX := hide kpx
              clear hes kpx x3 HF0 HFM HFS HKP HPT
              obtain ⟨F0, hF0⟩ : ∃ F0, (emptyB st || hasN ns st) = F0 := ⟨_, rfl⟩
              rw [hF0] at HNO2 HNX2 ⊢
              clear hF0
              cases F0 with
              | true =>
                have HX := hide (unhide HNX2 rfl)
                clear HNO2 HNX2
                go_wp2
                go_roundw
                case rel => exact ⟨k + 1, by omega, by go_num, unhide HKX, HX⟩
                case measure => simp [intOf]; omega
              | false =>
                obtain ⟨rfl, rfl⟩ := unhide HNS (unhide HNO2 rfl)
                obtain ⟨_, HB, _⟩ := unhide HL wr ((unhide HK2).trans (unhide HKX) (by simp))
                clear HNO2 HNX2 HYS HNS
                go_wp2
                exact bodyPost_ret (results_tmp2 rfl _ _ _) rfl ⟨rfl, unhide HB⟩
        · obtain rfl : k = n := by omega
          have hys := unhide HYY (unhide HK)
          obtain ⟨rfl, rfl⟩ := unhide HYS hys
          obtain ⟨eb, HB, HR⟩ := unhide HL wr ((unhide HK2).trans kp (by simp))
          obtain ⟨v0, v1, v2, v3, v4, v5, v6⟩ := eb.cells
          have VA := hide (unhide HVV hys wr (unhide HR))
          clear HVV HYS HYY HNS HNO HNX HK HR eb kp hys
          go_wp2_with fail
          refine (unhide VA).mono ?_
          rintro e w5 ⟨rfl, hb5⟩
          have HB5 := hide ((unhide HB).trans (hb5.mono (unhide HB).size))
          clear VA hb5 HB v0 v1 v2 v3 v4 v5 v6
          go_wp2
          exact bodyPost_ret (results_tmp2 rfl _ _ _) rfl ⟨rfl, unhide HB5⟩
    · have gl : ((ns.length : Int) == (la.length : Int)) = false := beq_eq_false_iff_ne.2 (by omega)
      obtain ⟨rfl, rfl⟩ := unhide HN0 (Or.inl hll)
      obtain ⟨_, HB, _⟩ := unhide HL w2 (unhide HK2)
      clear HN0 HOKK HVA HL HK2
      go_wp2
      exact bodyPost_ret (results_tmp2 rfl _ _ _) rfl ⟨rfl, unhide HB⟩
  · obtain ⟨q1, q2⟩ := hold_kind (M := ⟨ev, ns, la⟩) h3
    rw [q1, q2]
    clear q1 q2
    have g3 : (ckK xs == 3) = false := beq_eq_false_iff_ne.2 h3
    generalize ckK xs = ck at *
    by_cases h0 : ck = 0
    · subst h0
      rw [if_pos rfl] at HCK
      go_enter Tryz.func20, Tryz.ntmps20
      go_wp2_with fail
      refine (unhide HCK).mono ?_
      rintro e w2 ⟨rfl, hb2⟩
      obtain ⟨_, HB, _⟩ := unhide HL w2 (Kp.ofBelow hb2)
      clear HCK HL hb2
      go_wp2
      exact bodyPost_ret (results_tmp2 rfl _ _ _) rfl ⟨rfl, unhide HB⟩
    · rw [if_neg h0] at HCK
      go_enter Tryz.func20, Tryz.ntmps20
      go_wp2_with fail
      refine (unhide HCK).mono ?_
      rintro e w2 ⟨rfl, hb2⟩
      obtain ⟨_, HB, _⟩ := unhide HL w2 (Kp.ofBelow hb2)
      clear HCK HL hb2
      go_wp2
      exact bodyPost_ret (results_tmp2 rfl _ _ _) rfl ⟨rfl, unhide HB⟩
end Go.Proofs.YthipclehhcfahaaGreatDoor
