/-
  The document's answer for patterns: Check.
  The document's answer for nodes: begun, stays, bad, Check, Begun.
-/
import Derived.Test.YtjijhefmbmdbeaaGreatDoorD43
import Derived.Test.YtjijhefmbmdbeaaGreatDoorD34
namespace Go.Proofs.YtjijhefmbmdbeaaGreatDoor
open Go.RowKit Go.Shelf

set_option maxHeartbeats 4000000 in
set_option maxRecDepth 100000 in
theorem rpcheck_any (sa : Option Addr) (sc : Nat) (l : List SR) (wi : Int) (w : World) (h : StsAt w sa l) (hl : l.length ≤ 9223372036854775807) (hok : ∀ r ∈ l, r.s.ok) (hsz : ∀ r ∈ l, ∀ p ∈ r.s.cd, p.s.size ≤ 140737488351232 ∧ p.st.size ≤ 140737488351232) :
    Calls Tryz.prog 22 #[.agg #[.slice sa l.length sc, .int .i64 wi]] w fun e w' => e = .returned (.tuple #[.int .i64 (pcR ⟨stgs l, wi⟩).1, .int .i64 (pcR ⟨stgs l, wi⟩).2]) ∧ Kp [] w w' := by
  have k0 : Kp [] w (w.alloc (.cells #[.slice sa l.length sc, .int .i64 wi] 24)) := Kp.alloc _ _
  have HPC : Hid (∀ W, Kp [] (w.alloc (.cells #[.slice sa l.length sc, .int .i64 wi] 24)) W → (W.cell? ⟨w.heap.size, 0, none⟩ = some (.slice sa l.length sc) ∧ W.cell? ⟨w.heap.size, 1, none⟩ = some (.int .i64 wi) ∧ w.heap.size < W.heap.size) ∧ Hid (Kp [] w W)) := hide (fun W hk => ⟨pat_cells hk, hide (k0.trans hk (by simp))⟩)
  by_cases hn : l.length < 1 ∨ 8 < l.length
  · have hp : pcR ⟨stgs l, wi⟩ = (0, 120) := by unfold pcR; rw [if_pos (by dsimp only; rw [stgs_len]; exact hn)]
    rw [hp]
    obtain ⟨⟨c0, c1, _⟩, HW⟩ := unhide HPC _ (Kp.refl _ _)
    clear h hok hsz hp k0 HPC
    rcases hn with hn | hn
    · have g1 : ((l.length : Int) < 1) = True := by simp; omega
      go_enter Tryz.func22, Tryz.ntmps22
      go_wp2
      exact bodyPost_ret (results_tmp2 rfl _ _ _) rfl ⟨rfl, unhide HW⟩
    · have g1 : ((l.length : Int) < 1) = False := by simp; omega
      have g2 : ((8 : Int) < (l.length : Int)) = True := by simp; omega
      go_enter Tryz.func22, Tryz.ntmps22
      go_wp2
      exact bodyPost_ret (results_tmp2 rfl _ _ _) rfl ⟨rfl, unhide HW⟩
  · have hp : pcR ⟨stgs l, wi⟩ = match bad1 (stgs l) [] 0 with | some i => ((i : Int), 120) | none => if wiOk wi then (0, 0) else ((l.length : Int), 120) := by
      unfold pcR
      rw [if_neg (by dsimp only; rw [stgs_len]; exact hn)]
      dsimp only
      rw [stgs_len]
      rfl
    rw [hp]
    have g1 : ((l.length : Int) < 1) = False := by simp; omega
    have g2 : ((8 : Int) < (l.length : Int)) = False := by simp; omega
    have hl8 : l.length ≤ 8 := by omega
    have HMY := hide (fun k (hk : k < l.length) W (hw : Kp [] w W) => rmay_any sa sc k l W (h.kp hw) hl hk hok hsz)
    have HNX : Hid (∀ k (hk : k < l.length), bad1 ((stgs l).drop k) (nmsOf ((stgs l).take k)) k = if stOk l[k].s (nmsOf ((stgs l).take k)) then bad1 ((stgs l).drop (k + 1)) (nmsOf ((stgs l).take (k + 1))) (k + 1) else some k) := hide (fun k hk => by
      have := bad1_next (l := stgs l) (k := k) (by rw [stgs_len]; exact hk)
      rw [stgs_at hk] at this
      exact this)
    have HEN : Hid (bad1 ((stgs l).drop l.length) (nmsOf ((stgs l).take l.length)) l.length = none) := hide (by have := bad1_end (stgs l); rwa [stgs_len] at this)
    obtain ⟨R, hR⟩ : ∃ R, bad1 (stgs l) [] 0 = R := ⟨_, rfl⟩
    have HR0 : Hid (R = bad1 ((stgs l).drop 0) (nmsOf ((stgs l).take 0)) 0) := hide (by rw [← hR]; rfl)
    rw [hR]
    obtain ⟨P, hP⟩ : ∃ P, (match R with | some i => ((i : Int), (120 : Int)) | none => if wiOk wi then (0, 0) else ((l.length : Int), 120)) = P := ⟨_, rfl⟩
    have HPS : Hid (∀ i, R = some i → P.1 = (i : Int) ∧ P.2 = 120) := hide (fun i e => by rw [← hP, e]; exact ⟨rfl, rfl⟩)
    have HPN : Hid (R = none → P = if wiOk wi then (0, 0) else ((l.length : Int), 120)) := hide (fun e => by rw [← hP, e])
    rw [hP]
    obtain ⟨PA, PC⟩ := P
    dsimp only at HPS ⊢
    clear hP hR h hok hp hn hsz k0
    obtain ⟨n, hn⟩ : ∃ n, l.length = n := ⟨_, rfl⟩
    have HN := hide hn
    rw [hn] at g1 g2 hl8 HEN HPC HPN ⊢
    have HMY2 : Hid (∀ k (hk : k < l.length) W, Kp [] w W → Calls Tryz.prog 38 #[.slice sa n sc, .int .i64 (k : Int)] W fun e w' => e = .returned (.bool (stOk l[k].s (nmsOf ((stgs l).take k)))) ∧ Kp [] W w') := hide (fun k hk W hw => by have := unhide HMY k hk W hw; rw [hn] at this; exact this)
    clear hn hl HMY
    obtain ⟨⟨c0, c1, hlt0⟩, _⟩ := unhide HPC _ (Kp.refl _ _)
    go_enter Tryz.func22, Tryz.ntmps22
    go_wp2_with fail
    go_loopw [4] (fun i wr => ∃ (k : Nat), k ≤ n ∧ i = .int .i64 (k : Int) ∧ Hid (Kp [] (w.alloc (.cells #[.slice sa n sc, .int .i64 wi] 24)) wr) ∧ Hid (R = bad1 ((stgs l).drop k) (nmsOf ((stgs l).take k)) k)) (fun i _ => n - (intOf i).toNat)
    case atStart => exact ⟨0, Nat.zero_le _, rfl, hide (Kp.refl _ _), HR0⟩
    case round =>
      obtain ⟨k, hk, rfl, HK, HRR⟩ := hrel
      clear c0 c1 hlt0 HR0
      obtain ⟨⟨c0, c1, hlt0⟩, HW⟩ := unhide HPC _ (unhide HK)
      by_cases hlt : k < n
      · have hkx : k < l.length := by rw [unhide HN]; exact hlt
        have hli : (k : Int) < (n : Int) := by omega
        have MY := hide (unhide HMY2 k hkx wr (unhide HW))
        have HX := hide (unhide HNX k hkx)
        clear HNX HMY2 HEN HPN
        generalize stOk l[k].s (nmsOf ((stgs l).take k)) = SO at *
        cases SO with
        | false =>
          obtain ⟨rfl, rfl⟩ := unhide HPS k (by rw [unhide HRR, unhide HX]; rfl)
          clear HX HRR HPS
          go_wp2_with fail
          refine (unhide MY).mono ?_
          rintro e w3 ⟨rfl, hk3⟩
          have HB := hide ((unhide HW).trans hk3 (by simp))
          clear MY hk3
          go_wp2
          exact bodyPost_ret (results_tmp2 rfl _ _ _) rfl ⟨rfl, unhide HB⟩
        | true =>
          have HR2 : Hid (R = bad1 ((stgs l).drop (k + 1)) (nmsOf ((stgs l).take (k + 1))) (k + 1)) := hide (by rw [unhide HRR, unhide HX]; rfl)
          clear HX HRR HPS
          go_wp2_with fail
          refine (unhide MY).mono ?_
          rintro e w3 ⟨rfl, hk3⟩
          have HK3 := hide ((unhide HK).trans hk3 (by simp))
          clear MY hk3
          go_wp2
          go_roundw
          case rel => exact ⟨k + 1, by omega, by go_num, HK3, HR2⟩
          case measure => simp [intOf]; omega
      · obtain rfl : k = n := by omega
        have hP := unhide HPN (by rw [unhide HRR]; exact unhide HEN)
        clear HRR HEN HNX HMY2 HPN HPS
        unfold wiOk at hP
        by_cases h1 : wi < 1
        · have gd : decide (1 ≤ wi) = false := decide_eq_false (by omega)
          rw [gd, Bool.false_and, if_neg (by simp)] at hP
          obtain ⟨rfl, rfl⟩ := Prod.mk.inj hP
          have g1 : (wi < 1) = True := by simp; omega
          clear hP gd
          go_wp2
          exact bodyPost_ret (results_tmp2 rfl _ _ _) rfl ⟨rfl, unhide HW⟩
        · have gd : decide (1 ≤ wi) = true := decide_eq_true (by omega)
          rw [gd, Bool.true_and] at hP
          have g1 : (wi < 1) = False := by simp; omega
          by_cases h2 : 256 < wi
          · rw [decide_eq_false (by omega : ¬ wi ≤ 256), if_neg (by simp)] at hP
            obtain ⟨rfl, rfl⟩ := Prod.mk.inj hP
            have g2 : ((256 : Int) < wi) = True := by simp; omega
            clear hP gd
            go_wp2
            exact bodyPost_ret (results_tmp2 rfl _ _ _) rfl ⟨rfl, unhide HW⟩
          · rw [decide_eq_true (by omega : wi ≤ 256), if_pos rfl] at hP
            obtain ⟨rfl, rfl⟩ := Prod.mk.inj hP
            have g2 : ((256 : Int) < wi) = False := by simp; omega
            clear hP gd
            go_wp2
            exact bodyPost_ret (results_tmp2 rfl _ _ _) rfl ⟨rfl, unhide HW⟩
end Go.Proofs.YtjijhefmbmdbeaaGreatDoor
namespace Go.Proofs.YtjijhefmbmdbeaaGreatDoor
open Go.RowKit Go.Shelf

set_option maxHeartbeats 2000000 in
set_option maxRecDepth 100000 in
theorem rbegun1_any (sa : Option Addr) (sc : Nat) (l : List SR) (wi : Int) (s : Nat) (w : World) (h : StsAt w sa l) (hl : l.length ≤ 9223372036854775807) (h1 : 1 ≤ s) (h2 : s ≤ l.length) :
    Calls Tryz.prog 31 #[.agg #[.slice sa l.length sc, .int .i64 wi], .int .i64 (s : Int)] w fun e w' => e = .returned (.agg (bgN (stgs l) s).c) ∧ Kp [] w w' := by
  obtain ⟨k, rfl⟩ : ∃ k, s = k + 1 := ⟨s - 1, by omega⟩
  obtain ⟨b, off, rfl, hbl, x0, x1, x2, x3, -⟩ := h.at k (by omega)
  have hmn : mnAt (stgs l) k = l[k].s.mn := by rw [mnAt_get (by rw [stgs_len]; omega), stgs_at (by omega)]
  have htk : (bgN (stgs l) (k + 1)).c = #[.int .i64 ((k + 1 : Nat) : Int), .bool l[k].s.mn, .bool (decide ((k + 1 : Nat) < l.length))] := by
    unfold bgN Nd.c
    rw [Nat.add_sub_cancel, hmn, stgs_len]
  have hdec : decide ((k + 1 : Nat) < l.length) = decide (((k + 1 : Nat) : Int) < (l.length : Int)) := by
    rw [decide_eq_decide]; omega
  rw [htk, hdec]
  have hli : (k : Int) < (l.length : Int) := by omega
  have hsub : IntKind.i64.wrap (((k + 1 : Nat) : Int) - 1) = (k : Int) := by simp only [IntKind.wrap_i64]; omega
  obtain ⟨hk0, hb0⟩ := nb_all w (.cells #[.slice (some ⟨b, off, none⟩) l.length sc, .int .i64 wi] 24) (.int .i64 0) (.bool false) (.bool false) 26
  have hp := (CBox.new w #[.slice (some ⟨b, off, none⟩) l.length sc, .int .i64 wi] 24).kp (Kp.alloc _ (.cells #[.int .i64 0, .bool false, .bool false] 26)) (by simp)
  have p0 := hp.cell (i := 0) (v := .slice (some ⟨b, off, none⟩) l.length sc) rfl
  have y2 := hk0.cell x2 (by simp)
  have z0 := hb0.froz 0
  have z1 := hb0.froz 1
  have z2 := hb0.froz 2
  have c0 := hb0.cell (i := 0) (v := .int .i64 0) rfl
  have c1 := hb0.cell (i := 1) (v := .bool false) rfl
  have c2 := hb0.cell (i := 2) (v := .bool false) rfl
  have HE := hide (fun a b c => nb_end hk0 (by omega) hb0 a b c)
  generalize ((k + 1 : Nat) : Int) = S at *
  clear h hmn htk hdec x0 x1 x2 x3 hk0 hb0 hp
  generalize l[k].s.mn = MN at *
  generalize l.length = n at *
  have cS : ((w.alloc (.cells #[.slice (some ⟨b, off, none⟩) n sc, .int .i64 wi] 24)).alloc (.cells #[.int .i64 0, .bool false, .bool false] 26)).drew.cell? ⟨w.heap.size, 0, none⟩ = some (.slice (some ⟨b, off, none⟩) n sc) ∧ ((w.alloc (.cells #[.slice (some ⟨b, off, none⟩) n sc, .int .i64 wi] 24)).alloc (.cells #[.int .i64 0, .bool false, .bool false] 26)).drew.cell? ⟨b, off + k * 4 + 2, none⟩ = some (.bool MN) := ⟨p0, y2⟩
  clear p0 y2
  go_enter Tryz.func31, Tryz.ntmps31
  go_wp2_with fail
  generalize (w.alloc (.cells #[.slice (some ⟨b, off, none⟩) n sc, .int .i64 wi] 24)).alloc (.cells #[.int .i64 0, .bool false, .bool false] 26) = V at *
  have cS2 : ((((V.setCell ⟨w.heap.size + 1, 0, none⟩ (.int .i64 S)).setCell ⟨w.heap.size + 1, 1, none⟩ (.bool MN)).setCell ⟨w.heap.size + 1, 2, none⟩ (.bool (decide (S < (n : Int))))).drew).cell? ⟨w.heap.size, 0, none⟩ = some (.slice (some ⟨b, off, none⟩) n sc) ∧ ((((V.setCell ⟨w.heap.size + 1, 0, none⟩ (.int .i64 S)).setCell ⟨w.heap.size + 1, 1, none⟩ (.bool MN)).setCell ⟨w.heap.size + 1, 2, none⟩ (.bool (decide (S < (n : Int))))).drew).cell? ⟨b, off + k * 4 + 2, none⟩ = some (.bool MN) := ⟨(Kp.set3 V (w.heap.size + 1) (.int .i64 S) (.bool MN) (.bool (decide (S < (n : Int))))).cell cS.1 (by simp), (Kp.set3 V (w.heap.size + 1) (.int .i64 S) (.bool MN) (.bool (decide (S < (n : Int))))).cell cS.2 (by simp; omega)⟩
  go_region_held3 (fun W => W.cell? ⟨w.heap.size, 0, none⟩ = some (.slice (some ⟨b, off, none⟩) n sc) ∧ W.cell? ⟨b, off + k * 4 + 2, none⟩ = some (.bool MN))
    (first | with_reducible exact cS | with_reducible exact cS2)
    (first | fail)
  go_wp2
  obtain ⟨hx, hy⟩ := unhide HE (.int .i64 S) (.bool MN) (.bool (decide (S < (n : Int))))
  exact bodyPost_ret (results_cell_row Tryz.results31 _ _ (w.heap.size + 1) 26 _ (0, 0) _ rfl (hx.kp (Kp.drew _) (by simp)) Tryz.underlying26 rfl info_node) rfl ⟨rfl, hy.trans (Kp.drew _) (by simp)⟩
/-- A stage's four cells. -/
theorem rstays_any (nm : ByteArray) (h : Int) (mn : Bool) (v : Value) (b : Bool) (w : World) : Calls Tryz.prog 48 #[.agg #[.string nm, .int .i64 h, .bool mn, v], .bool b] w fun e w' => e = .returned (.bool (stay h b)) ∧ Kp [] w w' := by
  have hb := CBox.new w #[.string nm, .int .i64 h, .bool mn, v] 54
  have c1 := hb.cell (i := 1) (v := .int .i64 h) rfl
  have hk := hide (Kp.alloc w (.cells #[.string nm, .int .i64 h, .bool mn, v] 54))
  clear hb
  by_cases h3 : h = 3
  · subst h3
    have e : stay 3 b = true := rfl
    rw [e]
    go_enter Tryz.func48, Tryz.ntmps48
    go_wp2
    go_ret
    exact ⟨rfl, unhide hk⟩
  · by_cases h2 : h = 2
    · subst h2
      have e : stay 2 b = !b := rfl
      rw [e]
      clear h3
      go_enter Tryz.func48, Tryz.ntmps48
      go_wp2
      go_ret
      exact ⟨rfl, unhide hk⟩
    · have e : stay h b = false := by unfold stay; simp [h2, h3]
      rw [e]
      have g3 : (h == 3) = false := by simp [h3]
      have g2 : (h == 2) = false := by simp [h2]
      clear h2 h3 e
      go_enter Tryz.func48, Tryz.ntmps48
      go_wp2
      go_ret
      exact ⟨rfl, unhide hk⟩
/-- What the weights give. -/
def HvS (l : List SR) : Prop := ∀ r ∈ l, ∀ p ∈ r.s.cd, p.s.size ≤ 140737488351232 ∧ p.st.size ≤ 140737488351232
set_option maxHeartbeats 2000000 in
set_option maxRecDepth 100000 in
theorem rbad_any (sa : Option Addr) (sc : Nat) (l : List SR) (wi : Int) (w : World) (h : StsAt w sa l) (hok : ∀ r ∈ l, r.s.ok) (hv : HvS l) (hl : l.length ≤ 9223372036854775807) :
    Calls Tryz.prog 30 #[.agg #[.slice sa l.length sc, .int .i64 wi]] w fun e w' => e = .returned (.bool ((pcR ⟨stgs l, wi⟩).2 != 0)) ∧ Kp [] w w' := by
  have k0 := Kp.alloc w (.cells #[.slice sa l.length sc, .int .i64 wi] 24)
  have hP := CBox.new w #[.slice sa l.length sc, .int .i64 wi] 24
  have CK := hide (rpcheck_any sa sc l wi _ (h.kp k0) hl hok hv)
  have c0 := hP.cell (i := 0) (v := .slice sa l.length sc) rfl
  have c1 := hP.cell (i := 1) (v := .int .i64 wi) rfl
  have HK := hide k0
  generalize (pcR ⟨stgs l, wi⟩).1 = PA at *
  generalize (pcR ⟨stgs l, wi⟩).2 = PC at *
  clear h hok hv hl k0 hP
  generalize l.length = nn at *
  go_enter Tryz.func30, Tryz.ntmps30
  go_wp2_with fail
  refine (unhide CK).mono ?_
  rintro e w1 ⟨rfl, hk1⟩
  have HW := hide ((unhide HK).trans hk1 (by simp))
  clear CK hk1
  go_wp2
  go_ret
  exact ⟨rfl, unhide HW⟩
set_option maxHeartbeats 2000000 in
set_option maxRecDepth 100000 in
theorem rncheck_any (sa : Option Addr) (sc : Nat) (l : List SR) (wi : Int) (n : Nd) (w : World) (h : StsAt w sa l) (hok : ∀ r ∈ l, r.s.ok) (hv : HvS l) (hl : l.length ≤ 9223372036854775807) :
    Calls Tryz.prog 15 #[.agg #[.slice sa l.length sc, .int .i64 wi], .agg n.c] w fun e w' => e = .returned (.int .i64 (nkE ⟨stgs l, wi⟩ n)) ∧ Kp [] w w' := by
  have k0 : Kp [] w ((w.alloc (.cells #[.slice sa l.length sc, .int .i64 wi] 24)).alloc (.cells n.c 26)) := (Kp.alloc _ _).trans (Kp.alloc _ _) (by simp)
  have hP := rp_b0 w #[.slice sa l.length sc, .int .i64 wi] 24 (.cells n.c 26)
  have hN := rp_b1 w n.c 26 (.cells #[.slice sa l.length sc, .int .i64 wi] 24)
  have CK := hide (rbad_any sa sc l wi _ (h.kp k0) hok hv hl)
  have hcode := pc_code ⟨stgs l, wi⟩
  have HV : Hid (∀ W, Kp [] ((w.alloc (.cells #[.slice sa l.length sc, .int .i64 wi] 24)).alloc (.cells n.c 26)) W → (W.cell? ⟨w.heap.size, 0, none⟩ = some (.slice sa l.length sc) ∧ W.cell? ⟨w.heap.size, 1, none⟩ = some (.int .i64 wi) ∧ W.cell? ⟨w.heap.size + 1, 0, none⟩ = some (.int .i64 n.st) ∧ W.cell? ⟨w.heap.size + 1, 1, none⟩ = some (.bool n.lp) ∧ W.cell? ⟨w.heap.size + 1, 2, none⟩ = some (.bool n.tk)) ∧ Hid (Kp [] w W)) := hide (fun W hk => ⟨⟨(hP.kp hk (by simp)).cell rfl, (hP.kp hk (by simp)).cell rfl, (hN.kp hk (by simp)).cell rfl, (hN.kp hk (by simp)).cell rfl, (hN.kp hk (by simp)).cell rfl⟩, hide (k0.trans hk (by simp))⟩)
  have HST := hide h
  have HR : Hid (nkE ⟨stgs l, wi⟩ n = if (pcR ⟨stgs l, wi⟩).2 = 0 then (if mayN (stgs l) n then 0 else 170) else (pcR ⟨stgs l, wi⟩).2) := hide rfl
  have HM : Hid (mayN (stgs l) n = (isS (stgs l) n.st && ((mnAt (stgs l) (n.st.toNat - 1) || !n.lp) && (decide (n.st.toNat < l.length) || !n.tk)))) := hide (by unfold mayN; rw [stgs_len])
  have HI : Hid (isS (stgs l) n.st = (decide (1 ≤ n.st) && decide (n.st ≤ (l.length : Int)))) := hide (by unfold isS; rw [stgs_len])
  have HMN : Hid (∀ k (hk : k < l.length), mnAt (stgs l) k = l[k].s.mn) := hide (fun k hk => by rw [mnAt_get (by rw [stgs_len]; omega), stgs_at hk])
  generalize (pcR ⟨stgs l, wi⟩).2 = PC at *
  generalize nkE ⟨stgs l, wi⟩ n = R at *
  clear h hok hv k0 hP hN
  obtain ⟨nn, hnn⟩ : ∃ nn, l.length = nn := ⟨_, rfl⟩
  have HNN := hide hnn
  rw [hnn] at CK HV HM HI hl ⊢
  clear hnn
  obtain ⟨st, a, b⟩ := n
  unfold Nd.c at *
  dsimp only at *
  obtain ⟨⟨c0, c1, c2, c3, c4⟩, _⟩ := unhide HV _ (Kp.refl _ _)
  go_enter Tryz.func15, Tryz.ntmps15
  go_wp2_with fail
  refine (unhide CK).mono ?_
  rintro e w1 ⟨rfl, hk1⟩
  obtain ⟨⟨d0, d1, d2, d3, d4⟩, HW1⟩ := unhide HV _ hk1
  clear c0 c1 c2 c3 c4 hk1 CK HV
  have hR := unhide HR
  clear HR
  rcases hcode with rfl | rfl
  · rw [if_pos rfl] at hR
    have g0 : ((0 : Int) != 0) = false := rfl
    have hM := unhide HM
    rw [unhide HI] at hM
    clear HM HI
    by_cases h1 : 1 ≤ st
    · by_cases h2 : st ≤ (nn : Int)
      · obtain ⟨k, hk⟩ : ∃ k : Nat, st = (k : Int) + 1 := ⟨st.toNat - 1, by omega⟩
        subst hk
        have hkl : k < l.length := by rw [unhide HNN]; omega
        obtain ⟨bb, off, rfl, hbl, -, -, x2, -, -⟩ := ((unhide HST).kp (unhide HW1)).at k hkl
        rw [show ((k : Int) + 1).toNat - 1 = k by omega, unhide HMN k hkl, show ((k : Int) + 1).toNat = k + 1 by omega] at hM
        have hli : (k : Int) < (nn : Int) := by omega
        have hsub : IntKind.i64.wrap ((k : Int) + 1 - 1) = (k : Int) := by simp only [IntKind.wrap_i64]; omega
        have q1 : ((k : Int) + 1 < 1) = False := by simp; omega
        have q2 : ((nn : Int) < (k : Int) + 1) = False := by simp; omega
        generalize l[k].s.mn = MN at *
        have hd1 : decide (1 ≤ (k : Int) + 1) = true := by simp; omega
        have hd2 : decide ((k : Int) + 1 ≤ (nn : Int)) = true := by simpa using h2
        rw [hd1, hd2, Bool.true_and, Bool.true_and] at hM
        clear HST HMN HNN
        by_cases h3 : (k : Int) + 1 = (nn : Int)
        · have q3 : ((k : Int) + 1 == (nn : Int)) = true := by simpa using h3
          have hd3 : decide (k + 1 < nn) = false := by simp; omega
          rw [hd3] at hM
          clear h1 h2 h3 hd1 hd2 hd3
          cases a <;> cases b <;> cases MN <;> (simp at hM; rw [hM] at hR; simp at hR; subst hR; clear hM; as_aux_lemma => (go_wp2; go_ret; exact ⟨rfl, unhide HW1⟩))
        · have q3 : ((k : Int) + 1 == (nn : Int)) = false := by simpa using h3
          have hd3 : decide (k + 1 < nn) = true := by simp; omega
          rw [hd3] at hM
          clear h1 h2 h3 hd1 hd2 hd3
          cases a <;> cases b <;> cases MN <;> (simp at hM; rw [hM] at hR; simp at hR; subst hR; clear hM; as_aux_lemma => (go_wp2; go_ret; exact ⟨rfl, unhide HW1⟩))
      · have q1 : (st < 1) = False := by simp; omega
        have q2 : ((nn : Int) < st) = True := by simp; omega
        have hd2 : decide (st ≤ (nn : Int)) = false := by simpa using h2
        rw [hd2, Bool.and_false, Bool.false_and] at hM
        rw [hM, if_neg (by simp)] at hR
        subst hR
        clear h1 h2 hd2 hM HST HMN HNN
        go_wp2
        go_ret
        exact ⟨rfl, unhide HW1⟩
    · have q1 : (st < 1) = True := by simp; omega
      have hd1 : decide (1 ≤ st) = false := by simpa using h1
      rw [hd1, Bool.false_and, Bool.false_and] at hM
      rw [hM, if_neg (by simp)] at hR
      subst hR
      clear h1 hd1 hM HST HMN HNN
      go_wp2
      go_ret
      exact ⟨rfl, unhide HW1⟩
  · rw [if_neg (by omega)] at hR
    subst hR
    have g0 : ((120 : Int) != 0) = true := rfl
    clear HM HI HST HMN HNN
    go_wp2
    go_ret
    exact ⟨rfl, unhide HW1⟩
end Go.Proofs.YtjijhefmbmdbeaaGreatDoor
