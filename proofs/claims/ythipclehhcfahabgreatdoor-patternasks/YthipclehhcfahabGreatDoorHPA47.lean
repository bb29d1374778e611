/-
  Holds: whether a condition holds, as the plain function has it.
  PatternAsks: in a pattern that may be, each stage's condition can be reckoned behind the stages ahead of it.
  An event that comes in as an argument: its parts.
  A slice of events that comes in as an argument: its events lie where it says.
-/
import Derived.Test.YthipclehhcfahabGreatDoorHPA31
import Derived.Test.YthipclehhcfahabGreatDoorHPA22
import Derived.Test.YthipclehhcfahabGreatDoorHPA39
import Derived.Test.YthipclehhcfahabGreatDoorHPA46
import Derived.Test.YthipclehhcfahabGreatDoorChecked
import Derived.Test.YthipclehhcfahabGreatDoorHPA08
import Derived.ProofKit
import Derived.OpenShut
import Derived.Deep.Slices
import Derived.Test.YthipclehhcfahabGreatDoorHPA30
namespace Go.Proofs.YthipclehhcfahabGreatDoor
open Go.RowKit Go.Shelf

theorem hold_kind {x : List Pt} {M : Mo} (h : ckK x ≠ 3) : hdE x M = 110 ∧ hdB x M = false := by
  have e : hdE x M = 110 := by unfold hdE; rw [if_pos h]
  exact ⟨e, by unfold hdB; rw [if_pos (by rw [e]; decide)]⟩
theorem hold_none {x : List Pt} {M : Mo} (h : ckK x = 3) (h2 : M.ns.length ≠ M.la.length ∨ hasS M.ns x = false) : hdE x M = 5 ∧ hdB x M = false := by
  have e : hdE x M = 5 := by unfold hdE; rw [if_neg (by rw [h]; decide), if_pos h2]
  exact ⟨e, by unfold hdB; rw [if_pos (by rw [e]; decide)]⟩
theorem hold_ok {x : List Pt} {M : Mo} (h : ckK x = 3) (h1 : M.ns.length = M.la.length) (h2 : hasS M.ns x = true) : hdE x M = 0 ∧ ∃ v, fdX (vlv M) x = some v ∧ hdB x M = v.t := by
  have e : hdE x M = 0 := by unfold hdE; rw [if_neg (by rw [h]; decide), if_neg (by rw [h1, h2]; simp)]
  obtain ⟨t, t1, _, t3, _⟩ := ckK_leaves (x := x) (by rw [h]; decide)
  refine ⟨e, t.val (vlv M), by rw [t3]; exact fdX_flat _ t t1, ?_⟩
  unfold hdB
  rw [if_neg (by rw [e]; decide), t3, fdX_flat _ t t1]
set_option maxHeartbeats 2000000 in
set_option maxRecDepth 100000 in
theorem holds_any (ad an al : Option Addr) (cap cn cl : Nat) (xs : List Pt) (ev : Ev) (ns : List ByteArray) (la : List Ev) (w : World) (hc : PtsAt w ad xs) (hn : NmsAt w an ns) (hln : ns.length ≤ 9223372036854775807) (he : EvsAt w al la) (hT : TbE w) (hfit : ∀ p ∈ xs, p.fit) :
    Calls Tryz.prog 12 #[.slice ad xs.length cap, .agg ev.c, .slice an ns.length cn, .slice al la.length cl] w fun e w' => e = .returned (.tuple #[.bool (hdB xs ⟨ev, ns, la⟩), .int .i64 (hdE xs ⟨ev, ns, la⟩)]) ∧ Below w.heap.size w w' := by
  have hev : ev.c = #[.string ev.k, .string ev.t, .int .i64 ev.n0, .int .i64 ev.n1, .int .i64 ev.n2, .int .i64 ev.n3, .string ev.x] := rfl
  have b1 : Below w.heap.size w (w.alloc (.cells ev.c 36)) := (Below.refl _ _).alloc (Nat.le_refl _) _
  have e1 : EBox w.heap.size ev (w.alloc (.cells ev.c 36)) := CBox.new w _ _
  have CK := check_any ad cap xs _ (hc.kp (Kp.alloc w (.cells ev.c 36))) (hT.alloc (.cells ev.c 36)) hfit
  have HL : Hid (∀ w2, Below (w.alloc (.cells ev.c 36)).heap.size (w.alloc (.cells ev.c 36)) w2 → EBox w.heap.size ev w2 ∧ Hid (Below w.heap.size w w2) ∧ Hid (PtsAt w2 ad xs ∧ NmsAt w2 an ns ∧ EvsAt w2 al la)) := hide (fun w2 hb => ⟨e1.below hb e1.lt, hide (b1.trans (hb.mono (by simp))), hide ⟨(hc.kp (Kp.alloc w (.cells ev.c 36))).kp (Kp.ofBelow hb), (hn.kp (Kp.alloc w (.cells ev.c 36)) (by simp)).kp (Kp.ofBelow hb) (by simp), (he.kp (Kp.alloc w (.cells ev.c 36)) (by simp)).kp (Kp.ofBelow hb) (by simp)⟩⟩)
  rw [hev] at CK HL
  have HCK := hide CK
  clear CK b1 e1 hc hn he hT
  rw [hev]
  clear hev
  by_cases h3 : ckK xs = 3
  · have hcode : (if ckK xs = 0 then (110 : Int) else 0) = 0 := if_neg (by rw [h3]; decide)
    rw [hcode, h3] at HCK
    clear hcode
    obtain ⟨t, t1, t2, t3, _, t5, _⟩ := ckK_leaves (x := xs) (by rw [h3]; decide)
    have HLV : Hid (∀ q ∈ xs, sds q.kd = 0 → lfK q ≠ 0) := hide (by rw [t3]; exact t.fine_leaves t2)
    clear t1 t2 t3
    have HN0 : Hid (ns.length ≠ la.length ∨ hasS ns xs = false → hdE xs ⟨ev, ns, la⟩ = 5 ∧ hdB xs ⟨ev, ns, la⟩ = false) := hide (fun h => hold_none h3 h)
    have HOKK : Hid (ns.length = la.length → hasS ns xs = true → hdE xs ⟨ev, ns, la⟩ = 0 ∧ ∃ v, fdX (vlv ⟨ev, ns, la⟩) xs = some v ∧ hdB xs ⟨ev, ns, la⟩ = v.t) := hide (fun h1 h2 => hold_ok h3 h1 h2)
    obtain ⟨D, hD⟩ : ∃ D, hdE xs ⟨ev, ns, la⟩ = D := ⟨_, rfl⟩
    obtain ⟨B, hB⟩ : ∃ B, hdB xs ⟨ev, ns, la⟩ = B := ⟨_, rfl⟩
    rw [hD, hB] at HN0 HOKK ⊢
    clear hD hB h3
    go_enter Tryz.func12, Tryz.ntmps12
    go_wp2_with fail
    refine (unhide HCK).mono ?_
    rintro e w2 ⟨rfl, hb2⟩
    obtain ⟨eb, HB, HAT⟩ := unhide HL w2 hb2
    obtain ⟨v0, v1, v2, v3, v4, v5, v6⟩ := eb.cells
    have hlt := eb.lt
    clear HCK HL hb2 eb hfit
    by_cases hll : ns.length = la.length
    · have gl : ((ns.length : Int) == (la.length : Int)) = true := by rw [hll]; exact beq_self_eq_true _
      obtain ⟨hA, hN, hE⟩ := unhide HAT
      have k2 : Kp [] w2 (w2.alloc (.cells (moC ⟨ev, ns, la⟩ (.slice an ns.length cn) (.slice al la.length cl)) 72)) := Kp.alloc _ _
      have bx : CBox w2.heap.size (moC ⟨ev, ns, la⟩ (.slice an ns.length cn) (.slice al la.length cl)) 72 (w2.alloc (.cells (moC ⟨ev, ns, la⟩ (.slice an ns.length cn) (.slice al la.length cl)) 72)) := CBox.new w2 _ _
      have hM : MoAt w2.heap.size ⟨ev, ns, la⟩ an al cn cl (w2.alloc (.cells (moC ⟨ev, ns, la⟩ (.slice an ns.length cn) (.slice al la.length cl)) 72)) := ⟨bx, hN.kp k2 (by simp), hE.kp k2 (by simp), hln, hll⟩
      have HS := hasStages_any (M := ⟨ev, ns, la⟩) ad cap xs t5 _ (hA.kp k2) bx rfl hln (hN.kp k2 (by simp))
      have HB3 := hide ((unhide HB).alloc (unhide HB).size (.cells (moC ⟨ev, ns, la⟩ (.slice an ns.length cn) (.slice al la.length cl)) 72))
      have HFV : Hid (hasS ns xs = true → ∀ w3, Below (w2.alloc (.cells (moC ⟨ev, ns, la⟩ (.slice an ns.length cn) (.slice al la.length cl)) 72)).heap.size (w2.alloc (.cells (moC ⟨ev, ns, la⟩ (.slice an ns.length cn) (.slice al la.length cl)) 72)) w3 → Calls Tryz.prog 29 #[.slice ad xs.length cap, .func (.func 30) #[.pointer (some ⟨w2.heap.size, 0, none⟩)] #[]] w3 fun e w' => e = .returned (foRV (fdX (vlv ⟨ev, ns, la⟩) xs)) ∧ Below w3.heap.size w3 w') := hide (fun hs w3 hb3 => fold_values (M := ⟨ev, ns, la⟩) ad cap xs t5 w3 ((hA.kp k2).kp (Kp.ofBelow hb3)) (hM.below hb3) (unhide HLV) hs)
      have HHS : Hid (Calls Tryz.prog 28 #[.pointer (some ⟨w2.heap.size, 0, none⟩), .slice ad xs.length cap] (w2.alloc (.cells (moC ⟨ev, ns, la⟩ (.slice an ns.length cn) (.slice al la.length cl)) 72)) fun e w' => e = .returned (.bool (hasS ns xs)) ∧ Below (w2.alloc (.cells (moC ⟨ev, ns, la⟩ (.slice an ns.length cn) (.slice al la.length cl)) 72)).heap.size (w2.alloc (.cells (moC ⟨ev, ns, la⟩ (.slice an ns.length cn) (.slice al la.length cl)) 72)) w') := hide HS
      have HOK2 := hide (unhide HOKK hll)
      have HNO2 : Hid (hasS ns xs = false → D = 5 ∧ B = false) := hide (fun h => unhide HN0 (Or.inr h))
      clear HAT hA hN hE k2 bx hM HS HN0 HOKK HLV HB
      unfold moC at HHS HFV HB3
      dsimp only at HHS HFV HB3
      rw [hll] at HHS HFV HB3 ⊢
      clear gl
      generalize fdX (vlv ⟨ev, ns, la⟩) xs = FX at *
      generalize hasS ns xs = SB at *
      go_wp2_with fail
      refine (unhide HHS).mono ?_
      rintro e w3 ⟨rfl, hb3⟩
      have HB4 := hide ((unhide HB3).trans (hb3.mono (unhide HB3).size))
      cases SB with
      | false =>
        obtain ⟨rfl, rfl⟩ := unhide HNO2 rfl
        clear HOK2 HNO2 HFV HHS HB3 hb3
        go_wp2
        exact bodyPost_ret (results_tmp2 rfl _ _ _) rfl ⟨rfl, unhide HB4⟩
      | true =>
        have FV := hide (unhide HFV rfl w3 hb3)
        obtain ⟨rfl, v, hv, rfl⟩ := unhide HOK2 rfl
        rw [hv] at FV
        unfold foRV vlE at FV
        dsimp only at FV
        clear HOK2 HNO2 HFV HHS HB3 hb3 hv
        obtain ⟨vn, vs, vt⟩ := v
        dsimp only at FV ⊢
        go_wp2_with fail
        refine (unhide FV).mono ?_
        rintro e w4 ⟨rfl, hb4⟩
        have HB5 := hide (((unhide HB4).trans (hb4.mono (unhide HB4).size)).alloc (by have := (unhide HB4).size; have := hb4.size; omega) (.cells #[.int .i64 vn, .string vs, .bool vt] 75))
        clear hb4 HB4 FV
        go_wp2
        exact bodyPost_ret (results_tmp2 rfl _ _ _) rfl ⟨rfl, unhide HB5⟩
    · have gl : ((ns.length : Int) == (la.length : Int)) = false := beq_eq_false_iff_ne.2 (by omega)
      obtain ⟨rfl, rfl⟩ := unhide HN0 (Or.inl hll)
      have HB3 := hide ((unhide HB).alloc (unhide HB).size (.cells (moC ⟨ev, ns, la⟩ (.slice an ns.length cn) (.slice al la.length cl)) 72))
      clear HN0 HOKK HAT HLV HB
      go_wp2
      exact bodyPost_ret (results_tmp2 rfl _ _ _) rfl ⟨rfl, unhide HB3⟩
  · obtain ⟨q1, q2⟩ := hold_kind (M := ⟨ev, ns, la⟩) h3
    rw [q1, q2]
    clear q1 q2
    have g3 : (ckK xs == 3) = false := beq_eq_false_iff_ne.2 h3
    generalize (if ckK xs = 0 then (110 : Int) else 0) = EC at *
    generalize ckK xs = ck at *
    go_enter Tryz.func12, Tryz.ntmps12
    go_wp2_with fail
    refine (unhide HCK).mono ?_
    rintro e w2 ⟨rfl, hb2⟩
    obtain ⟨eb, HB, HAT⟩ := unhide HL w2 hb2
    clear HCK HL hb2 eb hfit
    go_wp2
    exact bodyPost_ret (results_tmp2 rfl _ _ _) rfl ⟨rfl, unhide HB⟩
end Go.Proofs.YthipclehhcfahabGreatDoor
namespace Go.Proofs.YthipclehhcfahabGreatDoor
open Go.RowKit Go.Shelf

theorem st_asks {s : Stg} {ah : List ByteArray} (h : stOk s ah = true) : ckK s.cd = 3 ∧ hasS ah s.cd = true := by
  unfold stOk cdOk at h
  simp only [Bool.and_eq_true, decide_eq_true_eq] at h
  exact ⟨h.2.2.2.1, all_asked (by rw [h.2.2.2.1]; decide) h.2.2.2.2⟩
theorem ev_cells {b : Nat} {e : Ev} {w : World} (h : CBox b e.c 36 w) : w.cell? ⟨b, 0, none⟩ = some (.string e.k) ∧ w.cell? ⟨b, 1, none⟩ = some (.string e.t) ∧ w.cell? ⟨b, 2, none⟩ = some (.int .i64 e.n0) ∧ w.cell? ⟨b, 3, none⟩ = some (.int .i64 e.n1) ∧ w.cell? ⟨b, 4, none⟩ = some (.int .i64 e.n2) ∧ w.cell? ⟨b, 5, none⟩ = some (.int .i64 e.n3) ∧ w.cell? ⟨b, 6, none⟩ = some (.string e.x) :=
  ⟨h.cell rfl, h.cell rfl, h.cell rfl, h.cell rfl, h.cell rfl, h.cell rfl, h.cell rfl⟩
set_option maxHeartbeats 4000000 in
set_option maxRecDepth 100000 in
theorem pasks_walk (sa : Option Addr) (sc : Nat) (l : List SR) (wi : Int) (ev : Ev) (al : Option Addr) (cl : Nat) (la : List Ev) (w : World) (hl : l.length ≤ 9223372036854775807) (h : StsAt w sa l) (hok : ∀ r ∈ l, r.s.ok) (hle : la.length ≤ 9223372036854775807) (hE : EvsAt w al la) (_ : ∀ e ∈ la, e.ok) (hT : TbP w) :
    Calls Tryz.prog 7 #[.agg #[.slice sa l.length sc, .int .i64 wi], .agg ev.c, .slice al la.length cl] w fun e w' => e = .returned (.bool true) ∧ Kp [] w w' := by
  have k0 : Kp [] w ((w.alloc (.cells #[.slice sa l.length sc, .int .i64 wi] 40)).alloc (.cells ev.c 36)) := (Kp.alloc _ _).trans (Kp.alloc _ _) (by simp)
  have hP := rp_b0 w #[.slice sa l.length sc, .int .i64 wi] 40 (.cells ev.c 36)
  have hEv := rp_b1 w ev.c 36 (.cells #[.slice sa l.length sc, .int .i64 wi] 40)
  have hec : ev.c = #[.string ev.k, .string ev.t, .int .i64 ev.n0, .int .i64 ev.n1, .int .i64 ev.n2, .int .i64 ev.n3, .string ev.x] := rfl
  have hV : ((w.alloc (.cells #[.slice sa l.length sc, .int .i64 wi] 40)).alloc (.cells ev.c 36)).heap.size = w.heap.size + 2 := by simp
  have WK := hide (pworks_any _ (hT.kp k0 (by simp)))
  have HV : Hid (∀ W, Kp [] ((w.alloc (.cells #[.slice sa l.length sc, .int .i64 wi] 40)).alloc (.cells ev.c 36)) W → (W.cell? ⟨w.heap.size, 0, none⟩ = some (.slice sa l.length sc) ∧ W.cell? ⟨w.heap.size, 1, none⟩ = some (.int .i64 wi)) ∧ (W.cell? ⟨w.heap.size + 1, 0, none⟩ = some (.string ev.k) ∧ W.cell? ⟨w.heap.size + 1, 1, none⟩ = some (.string ev.t) ∧ W.cell? ⟨w.heap.size + 1, 2, none⟩ = some (.int .i64 ev.n0) ∧ W.cell? ⟨w.heap.size + 1, 3, none⟩ = some (.int .i64 ev.n1) ∧ W.cell? ⟨w.heap.size + 1, 4, none⟩ = some (.int .i64 ev.n2) ∧ W.cell? ⟨w.heap.size + 1, 5, none⟩ = some (.int .i64 ev.n3) ∧ W.cell? ⟨w.heap.size + 1, 6, none⟩ = some (.string ev.x)) ∧ Hid (Kp [] w W) ∧ Hid (StsAt W sa l) ∧ Hid (EvsAt W al la) ∧ Hid (TbP W) ∧ w.heap.size + 1 < W.heap.size) := hide (fun W hk => ⟨⟨(hP.kp hk (by simp)).cell rfl, (hP.kp hk (by simp)).cell rfl⟩, ev_cells (hEv.kp hk (by simp)), hide (k0.trans hk (by simp)), hide (h.kp (k0.trans hk (by simp))), hide (hE.kp (k0.trans hk (by simp)) (by simp)), hide (hT.kp (k0.trans hk (by simp)) (by simp)), by have := hk.size; omega⟩)
  have HCK : Hid (∀ W, StsAt W sa l → TbE W → Calls Tryz.prog 20 #[.agg #[.slice sa l.length sc, .int .i64 wi]] W fun e w' => e = .returned (.tuple #[.int .i64 (pcR ⟨stgs l, wi⟩).1, .int .i64 (pcR ⟨stgs l, wi⟩).2]) ∧ Below W.heap.size W w') := hide (fun W h1 h2 => pcheck_any sa sc l wi W h1 h2 hok hl)
  have HPO : Hid ((pcR ⟨stgs l, wi⟩).2 = 0 → 1 ≤ l.length ∧ l.length ≤ 8 ∧ ∀ k (hk : k < l.length), ckK l[k].s.cd = 3 ∧ hasS (nmsOf ((stgs l).take k)) l[k].s.cd = true) := hide (fun h0 => by
    obtain ⟨p1, p2, _, p4⟩ := pc_ok h0
    dsimp only at p1 p2 p4
    rw [stgs_len] at p1 p2
    refine ⟨p1, p2, fun k hk => ?_⟩
    have := p4 k (by rw [stgs_len]; exact hk)
    rw [stgs_at hk] at this
    exact st_asks this)
  have HNM : Hid (∀ k (hk : k < l.length), nmsOf ((stgs l).take (k + 1)) = nmsOf ((stgs l).take k) ++ [l[k].s.nm]) := hide (fun k hk => by
    have := nmsOf_next (l := stgs l) (k := k) (by rw [stgs_len]; exact hk)
    rw [stgs_at hk] at this
    exact this)
  have HNL : Hid (∀ k, k ≤ l.length → (nmsOf ((stgs l).take k)).length = k) := hide (fun k hk => by rw [nmsOf_len, List.length_take, stgs_len]; omega)
  have HOK := hide hok
  generalize (pcR ⟨stgs l, wi⟩).1 = PA at *
  generalize (pcR ⟨stgs l, wi⟩).2 = PC at *
  obtain ⟨n, hn⟩ : ∃ n, l.length = n := ⟨_, rfl⟩
  have HN := hide hn
  have HVS := hide hV
  clear h hok hE hT k0 hP hEv hl hV
  rw [hn] at HV HCK WK HVS ⊢
  obtain ⟨m, hm⟩ : ∃ m, la.length = m := ⟨_, rfl⟩
  have HM := hide hm
  rw [hm] at hle ⊢
  rw [hec] at WK ⊢
  have HEC := hide hec
  obtain ⟨⟨c0, c1⟩, ⟨y0, y1, y2, y3, y4, y5, y6⟩, _, _, _, _, hlt⟩ := unhide HV _ (Kp.refl _ _)
  clear hn hm hec
  go_enter Tryz.func7, Tryz.ntmps7
  go_wp2_with fail
  refine (unhide WK).mono ?_
  rintro e w1 ⟨rfl, hb1⟩
  have k1 := Kp.ofBelow hb1
  rw [← unhide HEC] at k1
  have HK1 := hide k1
  obtain ⟨⟨d0, d1⟩, -, -, HS1, -, HT1, hlt1⟩ := unhide HV _ k1
  have CK := hide (unhide HCK _ (unhide HS1) (unhide HT1).ex)
  clear hb1 k1 WK HCK c0 c1 y0 y1 y2 y3 y4 y5 y6 hlt
  go_wp2_with fail
  refine (unhide CK).mono ?_
  rintro e w2 ⟨rfl, hb2⟩
  have k2 := (unhide HK1).trans (Kp.ofBelow hb2) (by simp)
  have HK2 := hide k2
  obtain ⟨⟨d0', d1'⟩, -, HW2, -, -, -, hlt2⟩ := unhide HV _ k2
  clear hb2 k2 CK d0 d1 HS1 HT1 hlt1 HK1
  by_cases h0 : PC = 0
  · subst h0
    obtain ⟨p1, p2, p3⟩ := unhide HPO rfl
    have HP3 := hide p3
    rw [unhide HN] at p1 p2
    clear p3 HPO
    go_wp2_with fail
    go_loopw [9, 10, 28] (fun v u i wr => ∃ (k : Nat) (a1 a2 : Option Addr) (c1 c2 : Nat) (E : List Ev), k ≤ n ∧ i = .int .i64 (k : Int) ∧ v = .slice a1 k c1 ∧ u = .slice a2 k c2 ∧ E.length = k ∧ Hid (AsR (w.heap.size + 2) ((w.alloc (.cells #[.slice sa n sc, .int .i64 wi] 40)).alloc (.cells ev.c 36)) wr (.slice a1 k c1) (.slice a2 k c2) (nmsOf ((stgs l).take k)) E)) (fun _ _ i _ => n - (intOf i).toNat)
    case atStart => exact ⟨0, none, none, 0, 0, [], Nat.zero_le _, rfl, rfl, rfl, rfl, hide ⟨OwnsW.nil _ _, OwnsX.nil _ _, unhide HK2⟩⟩
    case round =>
      obtain ⟨k, a1, a2, c1, c2, E, hk, rfl, rfl, rfl, hEl, HR⟩ := hrel
      clear d0' d1' HW2 HK2 hlt2
      by_cases hlt : k < n
      · have hkx : k < l.length := by rw [unhide HN]; exact hlt
        have hli : (k : Int) < (n : Int) := by omega
        obtain ⟨-, ⟨y0, y1, y2, y3, y4, y5, y6⟩, HWr, HSr, -, HTr, hltr⟩ := unhide HV _ (unhide HR).kp
        obtain ⟨b, off, rfl, hbl, x0, x1, x2, x3, hpts⟩ := (unhide HSr).at k hkx
        obtain ⟨hck, hhs⟩ := unhide HP3 k hkx
        have hnl := unhide HNL k (by omega)
        have HNX := hide (unhide HNM k hkx)
        have hok1 := unhide HOK _ (List.getElem_mem hkx)
        have kst := Kp.alloc wr (.cells (stV l[k].s l[k].ad l[k].c) 56)
        have hR2 := (unhide HR).go kst
        obtain ⟨b1, q1, e1, hnm, _⟩ := hR2.nam.at
        obtain ⟨b2, q2, e2, hev⟩ := hR2.evs.at
        injection e1 with f1 f2 f3
        injection e2 with f4 f5 f6
        subst f1 f3 f4 f6
        have HD := holds_any l[k].ad a1 a2 l[k].c c1 c2 l[k].s.cd ev (nmsOf ((stgs l).take k)) E _ (hpts.kp kst) hnm (by omega) hev ((unhide HTr).ex.kp kst (by simp)) (fun p hp => (hok1.2.2 p hp).2.2.2.1)
        rw [(hold_ok (M := ⟨ev, nmsOf ((stgs l).take k), E⟩) hck (by show (nmsOf ((stgs l).take k)).length = E.length; omega) hhs).1, hnl, hEl, unhide HEC] at HD
        generalize hdB l[k].s.cd ⟨ev, nmsOf ((stgs l).take k), E⟩ = HB at HD
        have HHD := hide HD
        have HR2 := hide hR2
        have HL8 := hide hnl
        clear hpts HD hR2 hck hhs hnl hok1 hnm hev f2 f5 HSr HTr HWr kst
        generalize l[k].s = s at *
        generalize l[k].ad = ad at *
        generalize l[k].c = cc at *
        generalize nmsOf ((stgs l).take k) = AH at *
        obtain ⟨nm, hw, mn, cd⟩ := s
        unfold stV at HHD HR2
        dsimp only at x0 x1 x2 x3 HHD HR2 HNX
        generalize cd.length = CL at *
        have bx := CBox.new wr #[.string nm, .int .i64 hw, .bool mn, .slice ad CL cc] 56
        have z0 := bx.cell (i := 0) (v := .string nm) rfl
        have z3 := bx.cell (i := 3) (v := .slice ad CL cc) rfl
        go_wp2_with fail
        refine (unhide HHD).mono ?_
        rintro e w3 ⟨rfl, hb3⟩
        have hR3 := (unhide HR2).go (Kp.ofBelow hb3)
        have u0 := (bx.kp (Kp.ofBelow hb3) (by simp)).cell (i := 0) (v := .string nm) rfl
        have hlt3 : wr.heap.size < w3.heap.size := by have := hb3.size; simp at this; omega
        obtain ⟨g4, q4, w4, hrun4, hR4⟩ := hR3.name (unhide HVS) nm (by rw [unhide HL8]; omega)
        rw [unhide HL8] at hrun4 hR4
        rw [← unhide HNX] at hR4
        have HRUN4 := hide hrun4
        have HR4 := hide hR4
        obtain ⟨-, ⟨t0, t1, t2, t3, t4, t5, t6⟩, -, -, HE4, -, hltr4⟩ := unhide HV _ hR4.kp
        clear HHD hb3 HR HR2 hR3 hrun4 hR4 bx z0 z3 x0 x1 x2 x3 y0 y1 y2 y3 y4 y5 y6 HNX hltr
        by_cases hla : k < m
        · have hlm : (k : Int) < (m : Int) := by omega
          obtain ⟨b5, off5, rfl, v0, v1, v2, v3, v4, v5, v6⟩ := (unhide HE4).seven k (by rw [unhide HM]; exact hla)
          have hb5 : b5 < w4.heap.size := World.block_lt_of_cell? _ _ v0
          obtain ⟨g6, q6, w6, hrun6, hR6⟩ := ((unhide HR4).go (Kp.alloc w4 (.cells (la[k]'(by rw [unhide HM]; exact hla)).c 36))).event (unhide HVS) (la[k]'(by rw [unhide HM]; exact hla)) (by rw [hEl]; omega)
          have hsz4 : (w4.alloc (.cells (la[k]'(by rw [unhide HM]; exact hla)).c 36)).heap.size = w4.heap.size + 1 := by simp
          rw [hsz4, hEl] at hrun6
          rw [hEl] at hR6
          have HEL : Hid ((E ++ [la[k]'(by rw [unhide HM]; exact hla)]).length = k + 1) := hide (by rw [List.length_append, hEl]; rfl)
          generalize la[k]'(by rw [unhide HM]; exact hla) = X at *
          have hX : X.c = #[.string X.k, .string X.t, .int .i64 X.n0, .int .i64 X.n1, .int .i64 X.n2, .int .i64 X.n3, .string X.x] := rfl
          rw [hX] at hrun6
          have HRUN6 := hide hrun6
          have HR6 := hide hR6
          clear hrun6 hR6 HR4 HE4 hX hsz4
          dsimp only
          go_wp2_with (at_builtin; first | refine wpList_app_run rfl _ _ _ rfl rfl rfl (unhide HRUN4) ?_ | refine wpList_app_run rfl _ _ _ rfl rfl rfl (unhide HRUN6) ?_)
          go_roundw
          case rel => exact ⟨k + 1, _, _, q4, q6, _, by omega, by go_num, rfl, rfl, unhide HEL, HR6⟩
          case measure => simp [intOf]; omega
        · have hlm : ((k : Int) < (m : Int)) = False := by simp; omega
          obtain ⟨g6, q6, w6, hrun6, hR6⟩ := ((unhide HR4).go (Kp.alloc w4 (.cells ev.c 36))).event (unhide HVS) ev (by rw [hEl]; omega)
          have hsz4 : (w4.alloc (.cells ev.c 36)).heap.size = w4.heap.size + 1 := by simp
          rw [hsz4, hEl] at hrun6
          rw [hEl] at hR6
          have HEL : Hid ((E ++ [ev]).length = k + 1) := hide (by rw [List.length_append, hEl]; rfl)
          rw [unhide HEC] at hrun6
          have HRUN6 := hide hrun6
          have HR6 := hide hR6
          clear hrun6 hR6 HR4 HE4 hsz4
          dsimp only
          go_wp2_with (at_builtin; first | refine wpList_app_run rfl _ _ _ rfl rfl rfl (unhide HRUN4) ?_ | refine wpList_app_run rfl _ _ _ rfl rfl rfl (unhide HRUN6) ?_)
          go_roundw
          case rel => exact ⟨k + 1, _, _, q4, q6, _, by omega, by go_num, rfl, rfl, unhide HEL, HR6⟩
          case measure => simp [intOf]; omega
      · obtain rfl : k = n := by omega
        obtain ⟨-, -, HWr, -, -, -, -⟩ := unhide HV _ (unhide HR).kp
        clear HR HV HP3 HNM HNL
        go_wp2
        go_ret
        exact ⟨rfl, unhide HWr⟩
  · have g : (PC = 0) = False := by simp [h0]
    clear HPO HNM HNL
    go_wp2
    go_ret
    exact ⟨rfl, unhide HW2⟩
end Go.Proofs.YthipclehhcfahabGreatDoor
namespace Go.Proofs.YthipclehhcfahabGreatDoor
open Go.RowKit Go.Deep

theorem cells_Event : Tryz.prog.cellsOf 36 = 7 := by kernel_rfl
theorem cells_i64 : Tryz.prog.cellsOf 2 = 1 := by kernel_rfl
theorem cells_four64 : Tryz.prog.cellsOf 34 = 4 := by kernel_rfl
theorem cells_text : Tryz.prog.cellsOf 9 = 1 := by kernel_rfl
theorem fields_Event : ∃ f0 f1 f2 f3 : Field, Tryz.prog.underlying 36 = some (.struct #[f0, f1, f2, f3]) ∧ f0.type = 9 ∧ f1.type = 9 ∧ f2.type = 34 ∧ f3.type = 9 ∧ f0.offset = 0 ∧ f1.offset = 1 ∧ f2.offset = 2 ∧ f3.offset = 6 :=
  ⟨_, _, _, _, Tryz.underlying36, rfl, rfl, rfl, rfl, rfl, rfl, rfl, rfl⟩
theorem list7 {α : Type} : ∀ (l : List α), l.length = 7 → ∃ a b c d e f g, l = [a, b, c, d, e, f, g]
  | [a, b, c, d, e, f, g], _ => ⟨a, b, c, d, e, f, g, rfl⟩
theorem list4 {α : Type} : ∀ (l : List α), l.length = 4 → ∃ a b c d, l = [a, b, c, d]
  | [a, b, c, d], _ => ⟨a, b, c, d, rfl⟩
section
variable {H : Type} {enc : TypeId × Value → H} {W : World} {spare : Nat → Bool} {held : Bool} {fuel : Nat} {x : DataW H × List MemPlace}
theorem open_event {cs : Array Value} (hsz : cs.size = Tryz.prog.cellsOf 36) (h : DataW.trod enc Tryz.prog W 0 spare held fuel 36 cs.toList = some x) :
    ∃ e : Ev, cs = e.c ∧ e.ok := by
  obtain ⟨f0, f1, f2, f3, hu, t0, t1, t2, t3, o0, o1, o2, o3⟩ := fields_Event
  rw [cells_Event] at hsz
  obtain ⟨xs, n, _, _, _, hxl, hf⟩ := DataW.trod_struct hu h
  obtain ⟨l⟩ := cs
  obtain ⟨v0, v1, v2, v3, v4, v5, v6, rfl⟩ := list7 l hsz
  obtain ⟨y0, y1, y2, y3, rfl⟩ := list4 xs hxl
  have g0 := hf 0 f0 rfl
  have g1 := hf 1 f1 rfl
  have g2 := hf 2 f2 rfl
  have g3 := hf 3 f3 rfl
  simp [o0, o1, o2, o3, t0, t1, t2, t3, cells_text, cells_four64] at g0 g1 g2 g3
  obtain ⟨k, q0, _, hk⟩ := DataW.trod_string Tryz.underlying9 g0
  obtain ⟨t, q1, _, ht⟩ := DataW.trod_string Tryz.underlying9 g1
  obtain ⟨s, q3, _, hs⟩ := DataW.trod_string Tryz.underlying9 g3
  simp only [List.cons.injEq, and_true] at q0 q1 q3
  subst q0 q1 q3
  obtain ⟨zs, m, _, _, _, hzl, hz⟩ := DataW.trod_array Tryz.underlying34 g2
  obtain ⟨z0, z1, z2, z3, rfl⟩ := list4 zs hzl
  have a0 := hz 0 (by omega)
  have a1 := hz 1 (by omega)
  have a2 := hz 2 (by omega)
  have a3 := hz 3 (by omega)
  simp [cells_i64] at a0 a1 a2 a3
  obtain ⟨n0, p0, _, w0⟩ := DataW.trod_int Tryz.underlying2 a0
  obtain ⟨n1, p1, _, w1⟩ := DataW.trod_int Tryz.underlying2 a1
  obtain ⟨n2, p2, _, w2⟩ := DataW.trod_int Tryz.underlying2 a2
  obtain ⟨n3, p3, _, w3⟩ := DataW.trod_int Tryz.underlying2 a3
  simp only [List.cons.injEq, and_true] at p0 p1 p2 p3
  subst p0 p1 p2 p3
  have u0 := bounds_i64 w0
  have u1 := bounds_i64 w1
  have u2 := bounds_i64 w2
  have u3 := bounds_i64 w3
  unfold maxLen at hk ht hs
  exact ⟨⟨k, t, n0, n1, n2, n3, s⟩, rfl, by show k.size ≤ _; omega, by show t.size ≤ _; omega, by show s.size ≤ _; omega, ⟨u0.1, by show n0 < _; omega⟩, ⟨u1.1, by show n1 < _; omega⟩, ⟨u2.1, by show n2 < _; omega⟩, ⟨u3.1, by show n3 < _; omega⟩⟩
end
end Go.Proofs.YthipclehhcfahabGreatDoor
namespace Go.Proofs.YthipclehhcfahabGreatDoor
open Go.RowKit Go.Deep

theorem open_events {H : Type} {enc : TypeId × Value → H} {W : World} {spare : Nat → Bool} {held : Bool} {fuel : Nat} {v : Value} {x : DataW H × List MemPlace}
    (h : DataW.trod enc Tryz.prog W 0 spare held fuel 53 [v] = some x) :
    ∃ (ad : Option Addr) (cap : Nat) (l : List Ev), v = .slice ad l.length cap ∧ l.length ≤ 9223372036854775807 ∧ EvsAt W ad l ∧ ∀ y ∈ l, y.ok := by
  rcases open_slice Tryz.underlying53 h with ⟨hcs, _⟩ | ⟨a, len, cap, m, n, D, Pl, hcs, hb, hl, hm, hmm, _, hx⟩
  · simp only [List.cons.injEq, and_true] at hcs
    subst hcs
    exact ⟨none, 0, [], rfl, by simp, fun hne => absurd rfl hne, by simp⟩
  · simp only [List.cons.injEq, and_true] at hcs
    subst hcs
    have hlm : len ≤ m := by rw [hmm]; split <;> omega
    have each : ∀ i, i < len → ∃ y : Ev, (∀ (j : Nat) (u : Value), y.c[j]? = some u → W.cell? (a.add (i * 7 + j)) = some u) ∧ y.ok := by
      intro i hi
      obtain ⟨cs', h1, h2⟩ := hx i (by omega)
      rw [cells_Event] at h1
      obtain ⟨_, hlen, hcell⟩ := World.cells?_some h1
      obtain ⟨y, hy, hok⟩ := open_event (cs := cs'.toArray) (by rw [cells_Event]; simpa using hlen) (by simpa using h2)
      refine ⟨y, fun j u hu => ?_, hok⟩
      rw [← hy] at hu
      have hj : j < cs'.length := by
        have := (Array.getElem?_eq_some_iff.1 hu).1
        simpa using this
      have e0 := hcell j (by omega)
      rw [Go.Deep.add_add] at e0
      rw [e0]
      simpa using hu
    have hinh : Inhabited Ev := ⟨⟨⟨#[]⟩, ⟨#[]⟩, 0, 0, 0, 0, ⟨#[]⟩⟩⟩
    obtain ⟨q, hq⟩ := choose_lt each
    refine ⟨some a, cap, (List.range len).map q, by simp, by simp; unfold maxLen at hm; omega, fun hne => ?_, fun y hy => ?_⟩
    · have h0 : 0 < len := by
        rcases Nat.eq_zero_or_pos len with e | e
        · subst e; simp at hne
        · exact e
      obtain ⟨b, off, spot⟩ := a
      have hc0 := (hq 0 h0).1 0 _ rfl
      have hspot : spot = none := by simpa [Addr.add] using World.cell?_spot hc0
      subst hspot
      refine ⟨b, off, rfl, ?_, fun i e hi j u hu => ?_⟩
      · rcases Nat.lt_or_ge b W.heap.size with hlt | hge
        · exact hlt
        · exfalso
          rw [Go.WideShapes.add_plain] at hc0
          simp [World.cell?, Array.getElem?_eq_none hge] at hc0
      · have hi' : i < len := by
          have := (List.getElem?_eq_some_iff.1 hi).1
          simpa using this
        have he : e = q i := by
          rw [List.getElem?_map, List.getElem?_range hi'] at hi
          simpa using hi.symm
        subst he
        have := (hq i hi').1 j u hu
        rw [Go.WideShapes.add_plain] at this
        rw [Nat.add_assoc]
        exact this
    · obtain ⟨i, hi, rfl⟩ := List.mem_map.1 hy
      exact (hq i (List.mem_range.1 hi)).2
end Go.Proofs.YthipclehhcfahabGreatDoor
