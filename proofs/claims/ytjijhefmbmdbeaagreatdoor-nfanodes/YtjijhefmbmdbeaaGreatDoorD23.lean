/-
  Patterns: how stages lie; Check is the plain function.
  A pair of results of which the first lies in cells. Of no program.
  Two faults held against one another.
  The nodes of nfa: how they lie; the node behind an event that was taken.
-/
import Derived.Test.YtjijhefmbmdbeaaGreatDoorD22
import Derived.Test.YtjijhefmbmdbeaaGreatDoorD05
import Derived.Laws.ResultCell
import Derived.Test.YtjijhefmbmdbeaaGreatDoorChecked
import Derived.WalkKit
import Derived.WalkLawsBesides
import Derived.Test.YtjijhefmbmdbeaaGreatDoorD21
import Derived.Deep.RegionHeld3
namespace Go.Proofs.YtjijhefmbmdbeaaGreatDoor
open Go.RowKit Go.Shelf

/-- A stage, and where its condition lies. -/
structure SR where
  s : Stg
  ad : Option Addr
  c : Nat
def stgs (l : List SR) : List Stg := l.map (·.s)
def StsAt (w : World) (ad : Option Addr) (l : List SR) : Prop := l ≠ [] → ∃ b off, ad = some ⟨b, off, none⟩ ∧ b < w.heap.size ∧ ∀ i (h : i < l.length), w.cell? ⟨b, off + i * 4, none⟩ = some (.string l[i].s.nm) ∧ w.cell? ⟨b, off + i * 4 + 1, none⟩ = some (.int .i64 l[i].s.hw) ∧ w.cell? ⟨b, off + i * 4 + 2, none⟩ = some (.bool l[i].s.mn) ∧ w.cell? ⟨b, off + i * 4 + 3, none⟩ = some (.slice l[i].ad l[i].s.cd.length l[i].c) ∧ PtsAt w l[i].ad l[i].s.cd
theorem StsAt.kp {w w' : World} {ad : Option Addr} {l : List SR} (h : StsAt w ad l) (hk : Kp [] w w') : StsAt w' ad l := fun hl => by
  obtain ⟨b, off, e, hlt, hc⟩ := h hl
  refine ⟨b, off, e, Nat.lt_of_lt_of_le hlt hk.size, fun i hi => ?_⟩
  obtain ⟨c0, c1, c2, c3, c4⟩ := hc i hi
  exact ⟨hk.cell c0 (by simp), hk.cell c1 (by simp), hk.cell c2 (by simp), hk.cell c3 (by simp), c4.kp hk⟩
theorem StsAt.at {w : World} {ad : Option Addr} {l : List SR} (h : StsAt w ad l) (i : Nat) (hi : i < l.length) : ∃ b off, ad = some ⟨b, off, none⟩ ∧ b < w.heap.size ∧ w.cell? ⟨b, off + i * 4, none⟩ = some (.string l[i].s.nm) ∧ w.cell? ⟨b, off + i * 4 + 1, none⟩ = some (.int .i64 l[i].s.hw) ∧ w.cell? ⟨b, off + i * 4 + 2, none⟩ = some (.bool l[i].s.mn) ∧ w.cell? ⟨b, off + i * 4 + 3, none⟩ = some (.slice l[i].ad l[i].s.cd.length l[i].c) ∧ PtsAt w l[i].ad l[i].s.cd := by
  obtain ⟨b, off, e, hlt, hc⟩ := h (fun e => by rw [e] at hi; simp at hi)
  exact ⟨b, off, e, hlt, hc i hi⟩
def Stg.ok (s : Stg) : Prop := s.nm.size ≤ 9223372036854775807 ∧ (-9223372036854775808 ≤ s.hw ∧ s.hw ≤ 9223372036854775807) ∧ ∀ p ∈ s.cd, p.ok
theorem stgs_at {l : List SR} {i : Nat} (h : i < l.length) : (stgs l)[i]'(by unfold stgs; rw [List.length_map]; exact h) = l[i].s := by
  unfold stgs
  rw [List.getElem_map]
theorem stgs_len (l : List SR) : (stgs l).length = l.length := by unfold stgs; rw [List.length_map]
theorem pat_cells {w W : World} {a b : Value} {t : TypeId} (hk : Kp [] (w.alloc (.cells #[a, b] t)) W) : W.cell? ⟨w.heap.size, 0, none⟩ = some a ∧ W.cell? ⟨w.heap.size, 1, none⟩ = some b ∧ w.heap.size < W.heap.size := by
  have h := (CBox.new w #[a, b] t).kp hk (by simp)
  exact ⟨h.cell rfl, h.cell rfl, by have := hk.size; simp at this; omega⟩
set_option maxHeartbeats 2000000 in
set_option maxRecDepth 100000 in
theorem pcheck_any (sa : Option Addr) (sc : Nat) (l : List SR) (wi : Int) (w : World) (h : StsAt w sa l) (hT : TbE w) (hok : ∀ r ∈ l, r.s.ok) (hl : l.length ≤ 9223372036854775807) :
    Calls Tryz.prog 21 #[.agg #[.slice sa l.length sc, .int .i64 wi]] w fun e w' => e = .returned (.tuple #[.int .i64 (pcR ⟨stgs l, wi⟩).1, .int .i64 (pcR ⟨stgs l, wi⟩).2]) ∧ Below w.heap.size w w' := by
  have b0 := (Below.refl w.heap.size w).alloc (Nat.le_refl _) (.cells #[.slice sa l.length sc, .int .i64 wi] 24)
  have HPC : Hid (∀ W, Kp [] (w.alloc (.cells #[.slice sa l.length sc, .int .i64 wi] 24)) W → W.cell? ⟨w.heap.size, 0, none⟩ = some (.slice sa l.length sc) ∧ W.cell? ⟨w.heap.size, 1, none⟩ = some (.int .i64 wi) ∧ w.heap.size < W.heap.size) := hide (fun W hk => pat_cells hk)
  have HB0 := hide b0
  by_cases hn : l.length < 1 ∨ 8 < l.length
  · have hp : pcR ⟨stgs l, wi⟩ = (0, 120) := by unfold pcR; rw [if_pos (by dsimp only; rw [stgs_len]; exact hn)]
    rw [hp]
    obtain ⟨c0, c1, _⟩ := unhide HPC _ (Kp.refl _ _)
    clear h hT hok hp b0
    rcases hn with hn | hn
    · have g1 : ((l.length : Int) < 1) = True := by simp; omega
      go_enter Tryz.func21, Tryz.ntmps21
      go_wp2
      exact bodyPost_ret (results_tmp2 rfl _ _ _) rfl ⟨rfl, unhide HB0⟩
    · have g1 : ((l.length : Int) < 1) = False := by simp; omega
      have g2 : ((8 : Int) < (l.length : Int)) = True := by simp; omega
      go_enter Tryz.func21, Tryz.ntmps21
      go_wp2
      exact bodyPost_ret (results_tmp2 rfl _ _ _) rfl ⟨rfl, unhide HB0⟩
  · have hp : pcR ⟨stgs l, wi⟩ = match bad1 (stgs l) [] 0 with | some i => ((i : Int), 120) | none => if wiOk wi then (0, 0) else ((l.length : Int), 120) := by
      unfold pcR
      rw [if_neg (by dsimp only; rw [stgs_len]; exact hn)]
      dsimp only
      rw [stgs_len]
      rfl
    rw [hp]
    have g1 : ((l.length : Int) < 1) = False := by simp; omega
    have g2 : ((8 : Int) < (l.length : Int)) = False := by simp; omega
    have hl8 : l.length ≤ 8 := by omega
    obtain ⟨c0, c1, hlt0⟩ := unhide HPC _ (Kp.refl _ _)
    have HST := hide h
    have HTB := hide hT
    have HOK := hide hok
    have HNX : Hid (∀ k (hk : k < l.length), bad1 ((stgs l).drop k) (nmsOf ((stgs l).take k)) k = if stOk l[k].s (nmsOf ((stgs l).take k)) then bad1 ((stgs l).drop (k + 1)) (nmsOf ((stgs l).take (k + 1))) (k + 1) else some k) := hide (fun k hk => by
      have := bad1_next (l := stgs l) (k := k) (by rw [stgs_len]; exact hk)
      rw [stgs_at hk] at this
      exact this)
    have HNM : Hid (∀ k (hk : k < l.length), nmsOf ((stgs l).take (k + 1)) = nmsOf ((stgs l).take k) ++ [l[k].s.nm]) := hide (fun k hk => by
      have := nmsOf_next (l := stgs l) (k := k) (by rw [stgs_len]; exact hk)
      rw [stgs_at hk] at this
      exact this)
    have HNL : Hid (∀ k, k ≤ l.length → (nmsOf ((stgs l).take k)).length = k) := hide (fun k hk => by rw [nmsOf_len, List.length_take, stgs_len]; omega)
    have HEN : Hid (bad1 ((stgs l).drop l.length) (nmsOf ((stgs l).take l.length)) l.length = none) := hide (by have := bad1_end (stgs l); rwa [stgs_len] at this)
    obtain ⟨R, hR⟩ : ∃ R, bad1 (stgs l) [] 0 = R := ⟨_, rfl⟩
    have HR0 : Hid (R = bad1 ((stgs l).drop 0) (nmsOf ((stgs l).take 0)) 0) := hide (by rw [← hR]; rfl)
    rw [hR]
    obtain ⟨P, hP⟩ : ∃ P, (match R with | some i => ((i : Int), (120 : Int)) | none => if wiOk wi then (0, 0) else ((l.length : Int), 120)) = P := ⟨_, rfl⟩
    have HPS : Hid (∀ i, R = some i → P.1 = (i : Int) ∧ P.2 = 120) := hide (fun i e => by rw [← hP, e]; exact ⟨rfl, rfl⟩)
    have HPN : Hid (R = none → P = if wiOk wi then (0, 0) else ((l.length : Int), 120)) := hide (fun e => by rw [← hP, e])
    rw [hP]
    obtain ⟨PA, PC⟩ := P
    dsimp only at HPS ⊢
    clear hP hR h hT hok hp b0 hn
    obtain ⟨n, hn⟩ : ∃ n, l.length = n := ⟨_, rfl⟩
    have HN := hide hn
    rw [hn] at g1 g2 hl8 HEN HPC HB0 c0 c1 hlt0 HNL HPN ⊢
    clear hn hl
    obtain ⟨i0, hi, hz0, hz1, hz2⟩ := info_parts info_str
    obtain ⟨w1, hmk, how, hgr⟩ := run_make_own (P := Tryz.prog) (w.alloc (.cells #[.slice sa n sc, .int .i64 wi] 24)) (w.heap.size + 1) 68 9 i0 (.string ⟨#[]⟩) 1 Tryz.underlying68 hi hz0 hz1 .i64 .i64 8 (by rw [hz2]; decide) (by decide) (by simp)
    have k1 : Kp [] (w.alloc (.cells #[.slice sa n sc, .int .i64 wi] 24)) w1 := Kp.of hgr
    have HK1 := hide k1
    have HB1 := hide ((unhide HB0).trans (k1.below (unhide HB0).size (by simp)))
    have HOW : Hid (OwnsW (w.heap.size + 1) w1 (.slice (some ⟨(w.alloc (.cells #[.slice sa n sc, .int .i64 wi] 24)).heap.size, 0, none⟩) 0 8) []) := hide how
    have hw1 : (w.alloc (.cells #[.slice sa n sc, .int .i64 wi] 24)).heap.size = w.heap.size + 1 := by simp
    rw [hw1] at hmk HOW
    have hmk' : (Instr.makeSlice 68 (.int .i64 0) (.int .i64 8)).run Tryz.prog (w.alloc (.cells #[.slice sa n sc, .int .i64 wi] 24)) = .ok (.slice (some ⟨w.heap.size + 1, 0, none⟩) 0 8) w1 := hmk
    obtain ⟨d0, d1, hlt1⟩ := unhide HPC w1 k1
    clear hi hz0 hz1 hz2 how hgr k1 hmk hw1 i0 HB0
    go_enter Tryz.func21, Tryz.ntmps21
    go_wp2_with fail
    go_loopw [4, 21] (fun v i wr => ∃ (k : Nat) (g c : Nat), k ≤ n ∧ i = .int .i64 (k : Int) ∧ v = .slice (some ⟨g, 0, none⟩) k c ∧ Hid (OwnsW (w.heap.size + 1) wr (.slice (some ⟨g, 0, none⟩) k c) (nmsOf ((stgs l).take k))) ∧ Hid (Kp [] (w.alloc (.cells #[.slice sa n sc, .int .i64 wi] 24)) wr ∧ Below w.heap.size w wr) ∧ Hid (R = bad1 ((stgs l).drop k) (nmsOf ((stgs l).take k)) k)) (fun _ i _ => n - (intOf i).toNat)
    case atStart => exact ⟨0, w.heap.size + 1, 8, Nat.zero_le _, rfl, rfl, HOW, hide ⟨unhide HK1, unhide HB1⟩, HR0⟩
    case round =>
      obtain ⟨k, g, c, hk, rfl, rfl, HO, HKB, HRR⟩ := hrel
      clear HOW HK1 HB1 HR0 d0 d1 c0 c1 hmk'
      by_cases hlt : k < n
      · have hkx : k < l.length := by rw [unhide HN]; exact hlt
        have hli : (k : Int) < (n : Int) := by omega
        have kw : Kp [] w wr := (Kp.alloc w (.cells #[.slice sa n sc, .int .i64 wi] 24)).trans (unhide HKB).1 (by simp)
        obtain ⟨b, off, rfl, hbl, x0, x1, x2, x3, hpts⟩ := ((unhide HST).kp kw).at k hkx
        have hnl := unhide HNL k (by omega)
        have HX := hide (unhide HNX k hkx)
        have HNX2 := hide (unhide HNM k hkx)
        have hok1 := unhide HOK _ (List.getElem_mem hkx)
        obtain ⟨a', c', hv, hnm, _⟩ := (unhide HO).at
        injection hv with e1 e2 e3
        subst e1 e3
        have kst := Kp.alloc wr (.cells (stV l[k].s l[k].ad l[k].c) 54)
        have hTr := (unhide HTB).kp kw (by simp)
        have MF := mayFollow_any l[k].s l[k].ad (some ⟨g, 0, none⟩) l[k].c c (nmsOf ((stgs l).take k)) _ (hpts.kp kst) (hnm.kp kst (by simp)) (by omega) (hTr.kp kst (by simp)) (fun p hp => (hok1.2.2 p hp).2.2.2.1) hok1.1
        rw [hnl] at MF
        have HMF := hide MF
        have HKS := hide kst
        have HL8 : Hid ((nmsOf ((stgs l).take k)).length = k) := hide hnl
        clear hpts MF kst hnl hok1 hnm e2 hTr kw HNX HNM HNL HOK HTB HST
        generalize l[k].s = s at *
        generalize l[k].ad = ad at *
        generalize l[k].c = cc at *
        generalize nmsOf ((stgs l).take k) = AH at *
        obtain ⟨nm, hw, mn, cd⟩ := s
        unfold stV at HMF HKS
        dsimp only at x0 x1 x2 x3 HMF HKS HX HNX2
        generalize stOk ⟨nm, hw, mn, cd⟩ AH = SO at *
        generalize cd.length = CL at *
        have bx := CBox.new wr #[.string nm, .int .i64 hw, .bool mn, .slice ad CL cc] 54
        have z0 := bx.cell (i := 0) (v := .string nm) rfl
        have z1 := bx.cell (i := 1) (v := .int .i64 hw) rfl
        have z2 := bx.cell (i := 2) (v := .bool mn) rfl
        have z3 := bx.cell (i := 3) (v := .slice ad CL cc) rfl
        go_wp2_with fail
        refine (unhide HMF).mono ?_
        rintro e w3 ⟨rfl, hb3⟩
        have k3 := (unhide HKS).trans (Kp.ofBelow hb3) (by simp)
        have y0 := (bx.kp (Kp.ofBelow hb3) (by simp)).cell (i := 0) (v := .string nm) rfl
        have HB3 := hide ((unhide HKB).2.trans (k3.below (unhide HKB).2.size (by simp)))
        have HK3 := hide ((unhide HKB).1.trans k3 (by simp))
        have HO3 := hide ((unhide HO).kp k3)
        have hlt3 : wr.heap.size < w3.heap.size := by have := hb3.size; simp at this; omega
        clear HMF hb3 k3 HKS HKB HO bx z0 z1 z2 z3 x0 x1 x2 x3
        cases SO with
        | false =>
          obtain ⟨rfl, rfl⟩ := unhide HPS k (by rw [unhide HRR, unhide HX]; rfl)
          clear HX HRR HNX2
          dsimp only
          go_wp2
          exact bodyPost_ret (results_tmp2 rfl _ _ _) rfl ⟨rfl, unhide HB3⟩
        | true =>
          have HR2 : Hid (R = bad1 ((stgs l).drop (k + 1)) (nmsOf ((stgs l).take (k + 1))) (k + 1)) := hide (by rw [unhide HRR, unhide HX]; rfl)
          have k6 := Kp.alloc w3 (.cells #[.string nm] 9)
          have hb6 := (unhide HB3).trans (k6.below (unhide HB3).size (by simp))
          obtain ⟨g', cap', w', hrun, hO', hbw, hgw⟩ := OwnsW.app (c := 1) ((unhide HO3).kp k6) (by have := (unhide HK3).size; simp at this ⊢; omega) nm (g := w3.heap.size) ((CBox.new w3 _ _).cell rfl) (by rw [unhide HL8]; omega) 68
          rw [unhide HL8] at hrun hO'
          rw [← unhide HNX2] at hO'
          have HRUN := hide hrun
          have HO' := hide hO'
          have hgg : w.heap.size + 1 ≤ g := (World.ownsRow.lt (unhide HO3) g rfl).1
          have HKB' : Hid (Kp [] (w.alloc (.cells #[.slice (some ⟨b, off, none⟩) n sc, .int .i64 wi] 24)) w' ∧ Below w.heap.size w w') := hide ⟨((unhide HK3).trans k6 (by simp)).trans (Kp.of hgw) (fun x hx => Or.inr (by simp [Value.ownBlock] at hx; simp; omega)), hb6.trans (hbw.mono (by omega))⟩
          clear hrun hO' hbw hb6 k6 hgw HX HRR
          dsimp only
          go_wp2_with (at_builtin; refine wpList_app_run rfl _ _ _ rfl rfl rfl (unhide HRUN) ?_)
          go_roundw
          case rel => exact ⟨k + 1, g', cap', by omega, by go_num, rfl, HO', HKB', HR2⟩
          case measure => simp [intOf]; omega
      · obtain rfl : k = n := by omega
        have hP := unhide HPN (by rw [unhide HRR]; exact unhide HEN)
        obtain ⟨e0, e1, hltw⟩ := unhide HPC wr (unhide HKB).1
        have HB := hide (unhide HKB).2
        clear HRR HEN HNX HNM HNL HO HKB HOK HTB HST HPN HPS
        unfold wiOk at hP
        by_cases h1 : wi < 1
        · have gd : decide (1 ≤ wi) = false := decide_eq_false (by omega)
          rw [gd, Bool.false_and, if_neg (by simp)] at hP
          obtain ⟨rfl, rfl⟩ := Prod.mk.inj hP
          have g1 : (wi < 1) = True := by simp; omega
          clear hP gd
          go_wp2
          exact bodyPost_ret (results_tmp2 rfl _ _ _) rfl ⟨rfl, unhide HB⟩
        · have gd : decide (1 ≤ wi) = true := decide_eq_true (by omega)
          rw [gd, Bool.true_and] at hP
          have g1 : (wi < 1) = False := by simp; omega
          by_cases h2 : 256 < wi
          · rw [decide_eq_false (by omega : ¬ wi ≤ 256), if_neg (by simp)] at hP
            obtain ⟨rfl, rfl⟩ := Prod.mk.inj hP
            have g2 : ((256 : Int) < wi) = True := by simp; omega
            clear hP gd
            go_wp2
            exact bodyPost_ret (results_tmp2 rfl _ _ _) rfl ⟨rfl, unhide HB⟩
          · rw [decide_eq_true (by omega : wi ≤ 256), if_pos rfl] at hP
            obtain ⟨rfl, rfl⟩ := Prod.mk.inj hP
            have g2 : ((256 : Int) < wi) = False := by simp; omega
            clear hP gd
            go_wp2
            exact bodyPost_ret (results_tmp2 rfl _ _ _) rfl ⟨rfl, unhide HB⟩
end Go.Proofs.YtjijhefmbmdbeaaGreatDoor
namespace Go.Proofs.YtjijhefmbmdbeaaGreatDoor
open Go.RowKit

theorem results_row_tmp {P : Program} {fn : Func} {p u : Tmp} {ty : TypeId} (h : fn.results = #[.cell p ty, .tmp u]) (tmps : Array Value) (w : World) (g : Nat) (t : TypeId) (cs : Array Value) (fr : Nat × Nat) (d : TypeDesc)
    (hp : tmps.getD p undef = .pointer (some ⟨g, 0, none⟩)) (hg : w.heap[g]? = some (.cells cs t fr))
    (hu : P.underlying ty = some d) (hd : (match d with | .struct _ | .array _ _ => true | _ => false) = true) (hi : (P.info? ty).map (·.size) = some cs.size) :
    (results fn tmps).run P w = .ok (.tuple #[.agg cs, tmps.getD u undef]) w := by
  rw [results_cell_tmp h, hp]
  simp [asAddr, run_loadVar_row w g t ty cs fr d hg hu hd hi]
end Go.Proofs.YtjijhefmbmdbeaaGreatDoor
namespace Go.Proofs.YtjijhefmbmdbeaaGreatDoor
open Go.RowKit

/-- Two faults held against one another. -/
theorem eqF (d : Nat) (a c a' c' : Int) (w : World) : (Op.equalIn (d + 2) 61 (.agg #[.int .i64 a, .int .i64 c]) (.agg #[.int .i64 a', .int .i64 c'])).run Tryz.prog w = .ok (a == a' && c == c') w := by
  have hi := fun (a b : Int) (w : World) => run_equalIn_int (P := Tryz.prog) w d 3 .i64 .i64 a b Tryz.underlying3
  have he := fun (a b : Int) (w : World) => run_equalIn_int (P := Tryz.prog) w d 30 .i64 .i64 a b Tryz.underlying30
  unfold Op.equalIn
  simp only [Sem.run_bind, run_underlying Tryz.underlying61, Result.andThen_ok]
  simp [part, Tryz.sizeOf3, Tryz.sizeOf30, go_sem, hi, he]
  by_cases h0 : a = a' <;> by_cases h1 : c = c' <;> simp [h0, h1]
end Go.Proofs.YtjijhefmbmdbeaaGreatDoor
namespace Go.Proofs.YtjijhefmbmdbeaaGreatDoor
open Go.RowKit Go.Shelf

theorem info_node : (Tryz.prog.info? 26).map (·.size) = some 3 := by kernel_rfl
theorem info_steps : (Tryz.prog.info? 29).map (·.size) = some 12 := by kernel_rfl
/-- Two nodes held against one another. -/
theorem eqN (d : Nat) (a b : Nd) (w : World) : (Op.equalIn (d + 2) 26 (.agg a.c) (.agg b.c)).run Tryz.prog w = .ok (ndE a b) w := by
  obtain ⟨a0, a1, a2⟩ := a
  obtain ⟨b0, b1, b2⟩ := b
  have hi := fun (a b : Int) (w : World) => run_equalIn_int (P := Tryz.prog) w d 3 .i64 .i64 a b Tryz.underlying3
  have hb := fun (a b : Bool) (w : World) => run_equalIn_bool (P := Tryz.prog) w d 4 a b Tryz.underlying4
  unfold Op.equalIn Nd.c ndE
  simp only [Sem.run_bind, run_underlying Tryz.underlying26, Result.andThen_ok]
  simp [part, Tryz.sizeOf3, Tryz.sizeOf4, go_sem, hi, hb]
  by_cases h0 : a0 = b0 <;> cases a1 <;> cases b1 <;> cases a2 <;> cases b2 <;> simp [h0]
theorem CBox.set3 {g : Nat} {x y z : Value} {t : TypeId} {w : World} (h : CBox g #[x, y, z] t w) (a b c : Value) : CBox g #[a, b, c] t (((w.setCell ⟨g, 0, none⟩ a).setCell ⟨g, 1, none⟩ b).setCell ⟨g, 2, none⟩ c) := ((h.set 0 a).set 1 b).set 2 c
theorem Kp.set3 (w : World) (g : Nat) (a b c : Value) : Kp [g] w (((w.setCell ⟨g, 0, none⟩ a).setCell ⟨g, 1, none⟩ b).setCell ⟨g, 2, none⟩ c) :=
  ((Kp.set _ _ _ _).trans (Kp.set _ _ _ _) (by simp)).trans (Kp.set _ _ _ _) (by simp)
/-- A pattern's box, and another one behind it. -/
theorem nb_all (w : World) (A : Obj) (x y z : Value) (t : TypeId) : Kp [] w ((w.alloc A).alloc (.cells #[x, y, z] t)) ∧ CBox (w.heap.size + 1) #[x, y, z] t ((w.alloc A).alloc (.cells #[x, y, z] t)) := by
  refine ⟨(Kp.alloc _ _).trans (Kp.alloc _ _) (by simp), ?_⟩
  have := CBox.new (w.alloc A) #[x, y, z] t
  rwa [show (w.alloc A).heap.size = w.heap.size + 1 by simp] at this
theorem nb_end {w W : World} {g : Nat} {x y z : Value} {t : TypeId} (hk : Kp [] w W) (hg : w.heap.size ≤ g) (hb : CBox g #[x, y, z] t W) (a b c : Value) :
    CBox g #[a, b, c] t (((W.setCell ⟨g, 0, none⟩ a).setCell ⟨g, 1, none⟩ b).setCell ⟨g, 2, none⟩ c) ∧ Kp [] w (((W.setCell ⟨g, 0, none⟩ a).setCell ⟨g, 1, none⟩ b).setCell ⟨g, 2, none⟩ c) :=
  ⟨hb.set3 a b c, hk.trans (Kp.set3 W g a b c) (fun x hx => Or.inr (by simp only [List.mem_singleton] at hx; omega))⟩
set_option maxHeartbeats 2000000 in
set_option maxRecDepth 100000 in
theorem taken_any (sa : Option Addr) (sc : Nat) (l : List SR) (wi : Int) (s : Nat) (w : World) (h : StsAt w sa l) (hl : l.length ≤ 9223372036854775807) (h1 : 1 ≤ s) (h2 : s ≤ l.length) :
    Calls Tryz.prog 29 #[.agg #[.slice sa l.length sc, .int .i64 wi], .int .i64 (s : Int)] w fun e w' => e = .returned (.agg (bgN (stgs l) s).c) ∧ Kp [] w w' := by
  obtain ⟨k, rfl⟩ : ∃ k, s = k + 1 := ⟨s - 1, by omega⟩
  obtain ⟨b, off, rfl, hbl, x0, x1, x2, x3, -⟩ := h.at k (by omega)
  have hmn : mnAt (stgs l) k = l[k].s.mn := by rw [mnAt_get (by rw [stgs_len]; omega), stgs_at (by omega)]
  have htk : (bgN (stgs l) (k + 1)).c = #[.int .i64 ((k + 1 : Nat) : Int), .bool l[k].s.mn, .bool (decide ((k + 1 : Nat) < l.length))] := by
    unfold bgN Nd.c
    rw [Nat.add_sub_cancel, hmn, stgs_len]
  have hdec : decide ((k + 1 : Nat) < l.length) = decide (((k + 1 : Nat) : Int) < (l.length : Int)) := by
    rw [decide_eq_decide]; omega
  rw [htk, hdec]
  have hli : (k : Int) < (l.length : Int) := by omega
  have hsub : IntKind.i64.wrap (((k + 1 : Nat) : Int) - 1) = (k : Int) := by simp only [IntKind.wrap_i64]; omega
  obtain ⟨hk0, hb0⟩ := nb_all w (.cells #[.slice (some ⟨b, off, none⟩) l.length sc, .int .i64 wi] 24) (.int .i64 0) (.bool false) (.bool false) 26
  have hp := (CBox.new w #[.slice (some ⟨b, off, none⟩) l.length sc, .int .i64 wi] 24).kp (Kp.alloc _ (.cells #[.int .i64 0, .bool false, .bool false] 26)) (by simp)
  have p0 := hp.cell (i := 0) (v := .slice (some ⟨b, off, none⟩) l.length sc) rfl
  have y2 := hk0.cell x2 (by simp)
  have z0 := hb0.froz 0
  have z1 := hb0.froz 1
  have z2 := hb0.froz 2
  have c0 := hb0.cell (i := 0) (v := .int .i64 0) rfl
  have c1 := hb0.cell (i := 1) (v := .bool false) rfl
  have c2 := hb0.cell (i := 2) (v := .bool false) rfl
  have HE := hide (fun a b c => nb_end hk0 (by omega) hb0 a b c)
  generalize ((k + 1 : Nat) : Int) = S at *
  clear h hmn htk hdec x0 x1 x2 x3 hk0 hb0 hp
  generalize l[k].s.mn = MN at *
  generalize l.length = n at *
  have cS : ((w.alloc (.cells #[.slice (some ⟨b, off, none⟩) n sc, .int .i64 wi] 24)).alloc (.cells #[.int .i64 0, .bool false, .bool false] 26)).drew.cell? ⟨w.heap.size, 0, none⟩ = some (.slice (some ⟨b, off, none⟩) n sc) ∧ ((w.alloc (.cells #[.slice (some ⟨b, off, none⟩) n sc, .int .i64 wi] 24)).alloc (.cells #[.int .i64 0, .bool false, .bool false] 26)).drew.cell? ⟨b, off + k * 4 + 2, none⟩ = some (.bool MN) := ⟨p0, y2⟩
  clear p0 y2
  go_enter Tryz.func29, Tryz.ntmps29
  go_wp2_with fail
  generalize (w.alloc (.cells #[.slice (some ⟨b, off, none⟩) n sc, .int .i64 wi] 24)).alloc (.cells #[.int .i64 0, .bool false, .bool false] 26) = V at *
  have cS2 : ((((V.setCell ⟨w.heap.size + 1, 0, none⟩ (.int .i64 S)).setCell ⟨w.heap.size + 1, 1, none⟩ (.bool MN)).setCell ⟨w.heap.size + 1, 2, none⟩ (.bool (decide (S < (n : Int))))).drew).cell? ⟨w.heap.size, 0, none⟩ = some (.slice (some ⟨b, off, none⟩) n sc) ∧ ((((V.setCell ⟨w.heap.size + 1, 0, none⟩ (.int .i64 S)).setCell ⟨w.heap.size + 1, 1, none⟩ (.bool MN)).setCell ⟨w.heap.size + 1, 2, none⟩ (.bool (decide (S < (n : Int))))).drew).cell? ⟨b, off + k * 4 + 2, none⟩ = some (.bool MN) := ⟨(Kp.set3 V (w.heap.size + 1) (.int .i64 S) (.bool MN) (.bool (decide (S < (n : Int))))).cell cS.1 (by simp), (Kp.set3 V (w.heap.size + 1) (.int .i64 S) (.bool MN) (.bool (decide (S < (n : Int))))).cell cS.2 (by simp; omega)⟩
  go_region_held3 (fun W => W.cell? ⟨w.heap.size, 0, none⟩ = some (.slice (some ⟨b, off, none⟩) n sc) ∧ W.cell? ⟨b, off + k * 4 + 2, none⟩ = some (.bool MN))
    (first | with_reducible exact cS | with_reducible exact cS2)
    (first | fail)
  go_wp2
  obtain ⟨hx, hy⟩ := unhide HE (.int .i64 S) (.bool MN) (.bool (decide (S < (n : Int))))
  exact bodyPost_ret (results_cell_row Tryz.results29 _ _ (w.heap.size + 1) 26 _ (0, 0) _ rfl (hx.kp (Kp.drew _) (by simp)) Tryz.underlying26 rfl info_node) rfl ⟨rfl, hy.trans (Kp.drew _) (by simp)⟩
end Go.Proofs.YtjijhefmbmdbeaaGreatDoor
