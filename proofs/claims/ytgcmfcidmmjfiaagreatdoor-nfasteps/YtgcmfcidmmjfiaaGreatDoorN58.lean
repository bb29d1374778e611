/-
  The document's answer for nodes: Begun, Step, Final.
-/
import Derived.Test.YtgcmfcidmmjfiaaGreatDoorN57
namespace Go.Proofs.YtgcmfcidmmjfiaaGreatDoor
open Go.RowKit Go.Shelf

set_option maxHeartbeats 2000000 in
set_option maxRecDepth 100000 in
theorem rnfinal_any (sa : Option Addr) (sc : Nat) (l : List SR) (wi : Int) (n : Nd) (w : World) (h : StsAt w sa l) (hok : ∀ r ∈ l, r.s.ok) (hv : HvS l) (hl : l.length ≤ 9223372036854775807) :
    Calls Tryz.prog 13 #[.agg #[.slice sa l.length sc, .int .i64 wi], .agg n.c] w fun e w' => e = .returned (.tuple #[.bool (nfB ⟨stgs l, wi⟩ n), .int .i64 (nkE ⟨stgs l, wi⟩ n)]) ∧ Kp [] w w' := by
  have k0 : Kp [] w ((w.alloc (.cells #[.slice sa l.length sc, .int .i64 wi] 24)).alloc (.cells n.c 26)) := (Kp.alloc _ _).trans (Kp.alloc _ _) (by simp)
  have hP := rp_b0 w #[.slice sa l.length sc, .int .i64 wi] 24 (.cells n.c 26)
  have hN := rp_b1 w n.c 26 (.cells #[.slice sa l.length sc, .int .i64 wi] 24)
  have CK := hide (rncheck_any sa sc l wi n _ (h.kp k0) hok hv hl)
  have HV : Hid (∀ W, Kp [] ((w.alloc (.cells #[.slice sa l.length sc, .int .i64 wi] 24)).alloc (.cells n.c 26)) W → (W.cell? ⟨w.heap.size, 0, none⟩ = some (.slice sa l.length sc) ∧ W.cell? ⟨w.heap.size, 1, none⟩ = some (.int .i64 wi) ∧ W.cell? ⟨w.heap.size + 1, 0, none⟩ = some (.int .i64 n.st) ∧ W.cell? ⟨w.heap.size + 1, 1, none⟩ = some (.bool n.lp) ∧ W.cell? ⟨w.heap.size + 1, 2, none⟩ = some (.bool n.tk)) ∧ Hid (Kp [] w W)) := hide (fun W hk => ⟨⟨(hP.kp hk (by simp)).cell rfl, (hP.kp hk (by simp)).cell rfl, (hN.kp hk (by simp)).cell rfl, (hN.kp hk (by simp)).cell rfl, (hN.kp hk (by simp)).cell rfl⟩, hide (k0.trans hk (by simp))⟩)
  have HR : Hid (nfB ⟨stgs l, wi⟩ n = if nkE ⟨stgs l, wi⟩ n = 0 then decide (n.st = (l.length : Int)) else false) := hide (by unfold nfB; dsimp only; rw [stgs_len])
  generalize nkE ⟨stgs l, wi⟩ n = R at *
  generalize nfB ⟨stgs l, wi⟩ n = F at *
  clear h hv hok hl k0 hP hN
  generalize l.length = nn at *
  obtain ⟨st, a, b⟩ := n
  unfold Nd.c at *
  dsimp only at *
  obtain ⟨⟨c0, c1, c2, c3, c4⟩, _⟩ := unhide HV _ (Kp.refl _ _)
  go_enter Tryz.func13, Tryz.ntmps13
  go_wp2_with fail
  refine (unhide CK).mono ?_
  rintro e w1 ⟨rfl, hk1⟩
  obtain ⟨⟨d0, d1, d2, d3, d4⟩, HW1⟩ := unhide HV _ hk1
  clear c0 c1 c2 c3 c4 CK hk1 HV
  have hF := unhide HR
  clear HR
  by_cases hp : R = 0
  · subst hp
    rw [if_pos rfl] at hF
    subst hF
    go_wp2
    exact bodyPost_ret (results_tmp2 rfl _ _ _) rfl ⟨by simp [beq_dec], unhide HW1⟩
  · rw [if_neg hp] at hF
    subst hF
    have g : (R != 0) = true := by simp [hp]
    clear hp
    go_wp2
    exact bodyPost_ret (results_tmp2 rfl _ _ _) rfl ⟨rfl, unhide HW1⟩
set_option maxHeartbeats 2000000 in
set_option maxRecDepth 100000 in
theorem rnbegun_any (sa : Option Addr) (sc : Nat) (l : List SR) (wi s : Int) (w : World) (h : StsAt w sa l) (hok : ∀ r ∈ l, r.s.ok) (hv : HvS l) (hl : l.length ≤ 9223372036854775807) :
    Calls Tryz.prog 15 #[.agg #[.slice sa l.length sc, .int .i64 wi], .int .i64 s] w fun e w' => e = .returned (.tuple #[.agg (nbN ⟨stgs l, wi⟩ s).c, .int .i64 (nbE ⟨stgs l, wi⟩ s)]) ∧ Kp [] w w' := by
  obtain ⟨k0, hN⟩ := nb_all w (.cells #[.slice sa l.length sc, .int .i64 wi] 24) (.int .i64 0) (.bool false) (.bool false) 26
  have hP := rp_b0 w #[.slice sa l.length sc, .int .i64 wi] 24 (.cells #[.int .i64 0, .bool false, .bool false] 26)
  have CK := hide (rbad_any sa sc l wi _ (h.kp k0) hok hv hl)
  have hcode := pc_code ⟨stgs l, wi⟩
  have HI : Hid (isS (stgs l) s = (decide (1 ≤ s) && decide (s ≤ (l.length : Int)))) := hide (by unfold isS; rw [stgs_len])
  have TK : Hid (isS (stgs l) s = true → ∀ W, Kp [] w W → Calls Tryz.prog 33 #[.agg #[.slice sa l.length sc, .int .i64 wi], .int .i64 s] W fun e w' => e = .returned (.agg (bgN (stgs l) s.toNat).c) ∧ Kp [] W w') := hide (fun hs W hk => by
    obtain ⟨g1, g2⟩ := isS_iff.1 hs
    rw [stgs_len] at g2
    have := rbegun1_any sa sc l wi s.toNat W (h.kp hk) hl (by omega) (by omega)
    rwa [show ((s.toNat : Nat) : Int) = s by omega] at this)
  have HV : Hid (∀ W, Kp [] ((w.alloc (.cells #[.slice sa l.length sc, .int .i64 wi] 24)).alloc (.cells #[.int .i64 0, .bool false, .bool false] 26)) W → (W.cell? ⟨w.heap.size, 0, none⟩ = some (.slice sa l.length sc) ∧ W.cell? ⟨w.heap.size, 1, none⟩ = some (.int .i64 wi) ∧ W.cell? ⟨w.heap.size + 1, 0, none⟩ = some (.int .i64 0) ∧ W.cell? ⟨w.heap.size + 1, 1, none⟩ = some (.bool false) ∧ W.cell? ⟨w.heap.size + 1, 2, none⟩ = some (.bool false)) ∧ (W.frozen? ⟨w.heap.size + 1, 0, none⟩ = false ∧ W.frozen? ⟨w.heap.size + 1, 1, none⟩ = false ∧ W.frozen? ⟨w.heap.size + 1, 2, none⟩ = false) ∧ Hid (Kp [] w W) ∧ Hid (CBox (w.heap.size + 1) #[.int .i64 0, .bool false, .bool false] 26 W)) := hide (fun W hk => ⟨⟨(hP.kp hk (by simp)).cell rfl, (hP.kp hk (by simp)).cell rfl, (hN.kp hk (by simp)).cell rfl, (hN.kp hk (by simp)).cell rfl, (hN.kp hk (by simp)).cell rfl⟩, ⟨(hN.kp hk (by simp)).froz _, (hN.kp hk (by simp)).froz _, (hN.kp hk (by simp)).froz _⟩, hide (k0.trans hk (by simp)), hide (hN.kp hk (by simp))⟩)
  have HE : Hid (nbE ⟨stgs l, wi⟩ s = if (pcR ⟨stgs l, wi⟩).2 = 0 then (if isS (stgs l) s then 0 else 1) else (pcR ⟨stgs l, wi⟩).2) := hide rfl
  have HN : Hid (nbN ⟨stgs l, wi⟩ s = if nbE ⟨stgs l, wi⟩ s = 0 then bgN (stgs l) s.toNat else zN) := hide rfl
  generalize (pcR ⟨stgs l, wi⟩).2 = PC at *
  generalize isS (stgs l) s = I at *
  generalize nbE ⟨stgs l, wi⟩ s = R at *
  generalize nbN ⟨stgs l, wi⟩ s = ND at *
  generalize bgN (stgs l) s.toNat = T1 at *
  clear h hv hok hl k0 hP hN
  generalize l.length = nn at *
  obtain ⟨⟨c0, c1, c2, c3, c4⟩, ⟨f0, f1, f2⟩, _⟩ := unhide HV _ (Kp.refl _ _)
  go_enter Tryz.func15, Tryz.ntmps15
  go_wp2_with fail
  refine (unhide CK).mono ?_
  rintro e w1 ⟨rfl, hk1⟩
  have HK1 := hide hk1
  obtain ⟨⟨d0, d1, d2, d3, d4⟩, ⟨g0, g1, g2⟩, HW1, HB1⟩ := unhide HV _ hk1
  clear c0 c1 c2 c3 c4 f0 f1 f2 hk1 CK
  have hE := unhide HE
  clear HE
  rcases hcode with rfl | rfl
  · rw [if_pos rfl] at hE
    have gz : ((0 : Int) != 0) = false := rfl
    have hI := unhide HI
    clear HI
    by_cases h1 : 1 ≤ s
    · by_cases h2 : s ≤ (nn : Int)
      · have q1 : (s < 1) = False := by simp; omega
        have q2 : ((nn : Int) < s) = False := by simp; omega
        have hi1 : I = true := by rw [hI]; simp [h1, h2]
        subst hi1
        rw [if_pos rfl] at hE
        subst hE
        have hN := unhide HN
        rw [if_pos rfl] at hN
        subst hN
        have T := hide (unhide TK rfl w1 (unhide HW1))
        clear TK HN hI h1 h2
        go_wp2_with fail
        refine (unhide T).mono ?_
        rintro e w3 ⟨rfl, hk3⟩
        obtain ⟨⟨-, -, e2, e3, e4⟩, ⟨g0, g1, g2⟩, HW3, HB3⟩ := unhide HV _ ((unhide HK1).trans hk3 (by simp))
        have HO := hide (nb_end (unhide HW3) (by omega) (unhide HB3) (.int .i64 ND.st) (.bool ND.lp) (.bool ND.tk))
        unfold Nd.c
        clear T hk3 HV HK1 HW1 HB1 HB3 HW3 d0 d1 d2 d3 d4
        go_wp2
        obtain ⟨hx, hy⟩ := unhide HO
        exact bodyPost_ret (results_row_tmp Tryz.results15 _ _ (w.heap.size + 1) 26 _ (0, 0) _ rfl hx Tryz.underlying26 rfl info_node) rfl ⟨rfl, hy⟩
      · have q1 : (s < 1) = False := by simp; omega
        have q2 : ((nn : Int) < s) = True := by simp; omega
        have hi1 : I = false := by rw [hI]; simp [h2]
        subst hi1
        rw [if_neg (by simp)] at hE
        subst hE
        have hN := unhide HN
        rw [if_neg (by omega)] at hN
        subst hN
        have HO := hide (nb_end (unhide HW1) (by omega) (unhide HB1) (.int .i64 0) (.bool false) (.bool false))
        clear TK HN HV HK1 HW1 HB1 hI h1 h2
        go_wp2
        obtain ⟨hx, hy⟩ := unhide HO
        exact bodyPost_ret (results_row_tmp Tryz.results15 _ _ (w.heap.size + 1) 26 _ (0, 0) _ rfl hx Tryz.underlying26 rfl info_node) rfl ⟨rfl, hy⟩
    · have q1 : (s < 1) = True := by simp; omega
      have hi1 : I = false := by rw [hI]; simp [h1]
      subst hi1
      rw [if_neg (by simp)] at hE
      subst hE
      have hN := unhide HN
      rw [if_neg (by omega)] at hN
      subst hN
      have HO := hide (nb_end (unhide HW1) (by omega) (unhide HB1) (.int .i64 0) (.bool false) (.bool false))
      clear TK HN HV HK1 HW1 HB1 hI h1
      go_wp2
      obtain ⟨hx, hy⟩ := unhide HO
      exact bodyPost_ret (results_row_tmp Tryz.results15 _ _ (w.heap.size + 1) 26 _ (0, 0) _ rfl hx Tryz.underlying26 rfl info_node) rfl ⟨rfl, hy⟩
  · rw [if_neg (by omega)] at hE
    subst hE
    have hN := unhide HN
    rw [if_neg (by omega)] at hN
    subst hN
    have gz : ((120 : Int) != 0) = true := rfl
    have HO := hide (nb_end (unhide HW1) (by omega) (unhide HB1) (.int .i64 0) (.bool false) (.bool false))
    clear TK HN HV HK1 HW1 HB1 HI
    go_wp2
    obtain ⟨hx, hy⟩ := unhide HO
    exact bodyPost_ret (results_row_tmp Tryz.results15 _ _ (w.heap.size + 1) 26 _ (0, 0) _ rfl hx Tryz.underlying26 rfl info_node) rfl ⟨rfl, hy⟩
set_option maxHeartbeats 2000000 in
set_option maxRecDepth 100000 in
theorem rnstep_any (sa : Option Addr) (sc : Nat) (l : List SR) (wi : Int) (n : Nd) (lo ta : Bool) (w : World) (h : StsAt w sa l) (hok : ∀ r ∈ l, r.s.ok) (hv : HvS l) (hl : l.length ≤ 9223372036854775807) :
    Calls Tryz.prog 11 #[.agg #[.slice sa l.length sc, .int .i64 wi], .agg n.c, .bool lo, .bool ta] w fun e w' => e = .returned (.tuple #[.agg (nsS ⟨stgs l, wi⟩ n lo ta).c, .int .i64 (nkE ⟨stgs l, wi⟩ n)]) ∧ Kp [] w w' := by
  have B0 := SpB.new w #[.slice sa l.length sc, .int .i64 wi] n
  have CK := hide (rncheck_any sa sc l wi n _ (h.kp B0.k) hok hv hl)
  have ST : Hid (nkE ⟨stgs l, wi⟩ n = 0 → ∀ W, Kp [] w W → Calls Tryz.prog 29 #[.agg #[.slice sa l.length sc, .int .i64 wi], .agg n.c, .bool lo, .bool ta] W fun e w' => e = .returned (.agg (stpN (stgs l) n lo ta).c) ∧ Kp [] W w') := hide (fun h0 W hk => rgo_any sa sc l wi n lo ta W (h.kp hk) hl (nk_ok h0).2)
  have HS : Hid (nsS ⟨stgs l, wi⟩ n lo ta = if nkE ⟨stgs l, wi⟩ n = 0 then stpN (stgs l) n lo ta else zS) := hide rfl
  generalize nkE ⟨stgs l, wi⟩ n = R at *
  generalize nsS ⟨stgs l, wi⟩ n lo ta = Y at *
  generalize stpN (stgs l) n lo ta = X at *
  clear h hv hok hl
  generalize l.length = nn at *
  obtain ⟨⟨p0, p1⟩, c0, c1, c2⟩ := B0.cells
  have HB0 := hide B0
  obtain ⟨st, a, b⟩ := n
  clear B0
  unfold Nd.c zS zN Sps.c at CK HB0 p0 p1 c0 c1 c2
  unfold Nd.c at ST ⊢
  dsimp only at CK HB0 p0 p1 c0 c1 c2 ST ⊢
  go_enter Tryz.func11, Tryz.ntmps11
  go_wp2_with fail
  refine (unhide CK).mono ?_
  rintro e w1 ⟨rfl, hk1⟩
  have HB1 := hide ((unhide HB0).kp hk1)
  clear HB0 hk1 CK p0 p1 c0 c1 c2
  have hS := unhide HS
  clear HS
  by_cases hp : R = 0
  · subst hp
    rw [if_pos rfl] at hS
    subst hS
    obtain ⟨⟨p0, p1⟩, c0, c1, c2⟩ := (unhide HB1).cells
    have T := hide (unhide ST rfl w1 (unhide HB1).k)
    dsimp only at c0 c1 c2
    clear ST
    go_wp2_with fail
    refine (unhide T).mono ?_
    rintro e w2 ⟨rfl, hk2⟩
    have HB2 := hide ((unhide HB1).kp hk2)
    have br := (unhide HB2).r
    obtain ⟨⟨z0, z1, z2, z3, z4, z5, z6, z7, z8, z9, z10, z11⟩, f0, f1, f2, f3, f4, f5, f6, f7, f8, f9, f10, f11⟩ := zs_cells br
    obtain ⟨⟨l0, l1, l2⟩, ⟨t0, t1, t2⟩, ⟨v0, v1, v2⟩, cl, ct, cw⟩ := Y
    have HE := hide (put12 (show CBox (w.heap.size + 1 + 1) #[.int .i64 0, .bool false, .bool false, .int .i64 0, .bool false, .bool false, .int .i64 0, .bool false, .bool false, .bool false, .bool false, .bool false] 29 w2 from br) (.int .i64 l0) (.bool l1) (.bool l2) (.int .i64 t0) (.bool t1) (.bool t2) (.int .i64 v0) (.bool v1) (.bool v2) (.bool cl) (.bool ct) (.bool cw))
    have HG := hide (fun W (hk : Kp [w.heap.size + 1 + 1] w2 W) => (unhide HB2).k.trans hk (fun x hx => Or.inr (by simp only [List.mem_singleton] at hx; omega)))
    unfold Sps.c
    dsimp only
    clear T hk2 HB1 HB2 br p0 p1 c0 c1 c2
    go_wp2
    obtain ⟨hx, hy⟩ := unhide HE
    exact bodyPost_ret (results_row_tmp Tryz.results11 _ _ (w.heap.size + 1 + 1) 29 _ (0, 0) _ rfl hx Tryz.underlying29 rfl info_steps) rfl ⟨rfl, unhide HG _ hy⟩
  · rw [if_neg hp] at hS
    subst hS
    have g : (R != 0) = true := by simp [hp]
    have br := (unhide HB1).r
    obtain ⟨⟨z0, z1, z2, z3, z4, z5, z6, z7, z8, z9, z10, z11⟩, f0, f1, f2, f3, f4, f5, f6, f7, f8, f9, f10, f11⟩ := zs_cells br
    have HE := hide (put12 (show CBox (w.heap.size + 1 + 1) #[.int .i64 0, .bool false, .bool false, .int .i64 0, .bool false, .bool false, .int .i64 0, .bool false, .bool false, .bool false, .bool false, .bool false] 29 w1 from br) (.int .i64 0) (.bool false) (.bool false) (.int .i64 0) (.bool false) (.bool false) (.int .i64 0) (.bool false) (.bool false) (.bool false) (.bool false) (.bool false))
    have HG := hide (fun W (hk : Kp [w.heap.size + 1 + 1] w1 W) => (unhide HB1).k.trans hk (fun x hx => Or.inr (by simp only [List.mem_singleton] at hx; omega)))
    clear ST HB1 br hp
    go_wp2
    obtain ⟨hx, hy⟩ := unhide HE
    exact bodyPost_ret (results_row_tmp Tryz.results11 _ _ (w.heap.size + 1 + 1) 29 _ (0, 0) _ rfl hx Tryz.underlying29 rfl info_steps) rfl ⟨rfl, unhide HG _ hy⟩
end Go.Proofs.YtgcmfcidmmjfiaaGreatDoor
