/-
  Check, Begun, Step and Final of nfa.
  The document's answers: the words of fields, which words name no stage, the signs, the kind of an operation.
  The document's answers: the kind of an operation, its sign.
  Names of chapter 2, plainly. Of no program.
-/
import Derived.Test.YtgcmfcidmmjfiaaGreatDoorQ32
import Derived.Test.YtgcmfcidmmjfiaaGreatDoorQ05
import Derived.Test.YtgcmfcidmmjfiaaGreatDoorQ03
import Derived.Test.YtgcmfcidmmjfiaaGreatDoorQ01
namespace Go.Proofs.YtgcmfcidmmjfiaaGreatDoor
open Go.RowKit Go.Shelf

theorem beq_dec (a b : Int) : (a == b) = decide (a = b) := by
  by_cases h : a = b <;> simp [h]
/-- What Check tells. -/
def nkE (p : Ptn) (n : Nd) : Int := if (pcR p).2 = 0 then (if mayN p.ss n then 0 else 170) else (pcR p).2
def nbE (p : Ptn) (s : Int) : Int := if (pcR p).2 = 0 then (if isS p.ss s then 0 else 1) else (pcR p).2
def nbN (p : Ptn) (s : Int) : Nd := if nbE p s = 0 then bgN p.ss s.toNat else zN
def nsS (p : Ptn) (n : Nd) (lo ta : Bool) : Sps := if nkE p n = 0 then stpN p.ss n lo ta else zS
def nfB (p : Ptn) (n : Nd) : Bool := if nkE p n = 0 then decide (n.st = (p.ss.length : Int)) else false
theorem nk_ok {p : Ptn} {n : Nd} (h : nkE p n = 0) : (pcR p).2 = 0 ∧ mayN p.ss n = true := by
  unfold nkE at h
  by_cases h0 : (pcR p).2 = 0
  · rw [if_pos h0] at h
    refine ⟨h0, ?_⟩
    cases e : mayN p.ss n with
    | true => rfl
    | false => rw [e] at h; simp at h
  · rw [if_neg h0] at h
    exact absurd h h0
set_option maxHeartbeats 2000000 in
set_option maxRecDepth 100000 in
theorem ncheck_any (sa : Option Addr) (sc : Nat) (l : List SR) (wi : Int) (n : Nd) (w : World) (h : StsAt w sa l) (hT : TbE w) (hok : ∀ r ∈ l, r.s.ok) (hl : l.length ≤ 9223372036854775807) :
    Calls Tryz.prog 16 #[.agg #[.slice sa l.length sc, .int .i64 wi], .agg n.c] w fun e w' => e = .returned (.int .i64 (nkE ⟨stgs l, wi⟩ n)) ∧ Kp [] w w' := by
  have k0 : Kp [] w ((w.alloc (.cells #[.slice sa l.length sc, .int .i64 wi] 24)).alloc (.cells n.c 26)) := (Kp.alloc _ _).trans (Kp.alloc _ _) (by simp)
  have hP := rp_b0 w #[.slice sa l.length sc, .int .i64 wi] 24 (.cells n.c 26)
  have hN := rp_b1 w n.c 26 (.cells #[.slice sa l.length sc, .int .i64 wi] 24)
  have CK := hide (pcheck_any sa sc l wi _ (h.kp k0) (hT.kp k0 (by simp)) hok hl)
  have MB := hide (fun W (hk : Kp [] w W) => mayBe_any sa sc l wi n W (h.kp hk) hl)
  have HV : Hid (∀ W, Kp [] ((w.alloc (.cells #[.slice sa l.length sc, .int .i64 wi] 24)).alloc (.cells n.c 26)) W → (W.cell? ⟨w.heap.size, 0, none⟩ = some (.slice sa l.length sc) ∧ W.cell? ⟨w.heap.size, 1, none⟩ = some (.int .i64 wi) ∧ W.cell? ⟨w.heap.size + 1, 0, none⟩ = some (.int .i64 n.st) ∧ W.cell? ⟨w.heap.size + 1, 1, none⟩ = some (.bool n.lp) ∧ W.cell? ⟨w.heap.size + 1, 2, none⟩ = some (.bool n.tk)) ∧ Hid (Kp [] w W)) := hide (fun W hk => ⟨⟨(hP.kp hk (by simp)).cell rfl, (hP.kp hk (by simp)).cell rfl, (hN.kp hk (by simp)).cell rfl, (hN.kp hk (by simp)).cell rfl, (hN.kp hk (by simp)).cell rfl⟩, hide (k0.trans hk (by simp))⟩)
  have HR : Hid (∀ P M, (pcR ⟨stgs l, wi⟩).2 = P → mayN (stgs l) n = M → nkE ⟨stgs l, wi⟩ n = if P = 0 then (if M then 0 else 170) else P) := hide (fun P M e1 e2 => by unfold nkE; rw [e1, e2])
  generalize (pcR ⟨stgs l, wi⟩).1 = PA at *
  generalize (pcR ⟨stgs l, wi⟩).2 = PC at *
  have HR2 := hide (unhide HR PC _ rfl rfl)
  generalize mayN (stgs l) n = M at *
  generalize nkE ⟨stgs l, wi⟩ n = R at *
  clear h hT hok hl k0 hP hN HR
  generalize l.length = nn at *
  obtain ⟨st, a, b⟩ := n
  unfold Nd.c at *
  dsimp only at *
  obtain ⟨⟨c0, c1, c2, c3, c4⟩, _⟩ := unhide HV _ (Kp.refl _ _)
  go_enter Tryz.func16, Tryz.ntmps16
  go_wp2_with fail
  refine (unhide CK).mono ?_
  rintro e w1 ⟨rfl, hb1⟩
  have HK1 := hide (Kp.ofBelow hb1)
  obtain ⟨⟨d0, d1, d2, d3, d4⟩, HW1⟩ := unhide HV _ (unhide HK1)
  clear c0 c1 c2 c3 c4 hb1 CK
  by_cases hp : PC = 0
  · subst hp
    have hR := unhide HR2
    rw [if_pos rfl] at hR
    have MB1 := hide (unhide MB w1 (unhide HW1))
    clear HR2 MB
    go_wp2_with fail
    refine (unhide MB1).mono ?_
    rintro e w2 ⟨rfl, hk2⟩
    have HW2 := hide ((unhide HW1).trans hk2 (by simp))
    clear hk2 MB1 d0 d1 d2 d3 d4 HV HK1 HW1
    cases M with
    | true =>
      rw [if_pos rfl] at hR
      subst hR
      go_wp2
      go_ret
      exact ⟨rfl, unhide HW2⟩
    | false =>
      rw [if_neg (by simp)] at hR
      subst hR
      go_wp2
      go_ret
      exact ⟨rfl, unhide HW2⟩
  · have hR := unhide HR2
    rw [if_neg hp] at hR
    subst hR
    have g : (R != 0) = true := by simp [hp]
    clear HR2 MB hp
    go_wp2
    go_ret
    exact ⟨rfl, unhide HW1⟩
set_option maxHeartbeats 2000000 in
set_option maxRecDepth 100000 in
theorem nfinal_any (sa : Option Addr) (sc : Nat) (l : List SR) (wi : Int) (n : Nd) (w : World) (h : StsAt w sa l) (hT : TbE w) (hok : ∀ r ∈ l, r.s.ok) (hl : l.length ≤ 9223372036854775807) :
    Calls Tryz.prog 12 #[.agg #[.slice sa l.length sc, .int .i64 wi], .agg n.c] w fun e w' => e = .returned (.tuple #[.bool (nfB ⟨stgs l, wi⟩ n), .int .i64 (nkE ⟨stgs l, wi⟩ n)]) ∧ Kp [] w w' := by
  have k0 : Kp [] w ((w.alloc (.cells #[.slice sa l.length sc, .int .i64 wi] 24)).alloc (.cells n.c 26)) := (Kp.alloc _ _).trans (Kp.alloc _ _) (by simp)
  have hP := rp_b0 w #[.slice sa l.length sc, .int .i64 wi] 24 (.cells n.c 26)
  have hN := rp_b1 w n.c 26 (.cells #[.slice sa l.length sc, .int .i64 wi] 24)
  have CK := hide (ncheck_any sa sc l wi n _ (h.kp k0) (hT.kp k0 (by simp)) hok hl)
  have HV : Hid (∀ W, Kp [] ((w.alloc (.cells #[.slice sa l.length sc, .int .i64 wi] 24)).alloc (.cells n.c 26)) W → (W.cell? ⟨w.heap.size, 0, none⟩ = some (.slice sa l.length sc) ∧ W.cell? ⟨w.heap.size, 1, none⟩ = some (.int .i64 wi) ∧ W.cell? ⟨w.heap.size + 1, 0, none⟩ = some (.int .i64 n.st) ∧ W.cell? ⟨w.heap.size + 1, 1, none⟩ = some (.bool n.lp) ∧ W.cell? ⟨w.heap.size + 1, 2, none⟩ = some (.bool n.tk)) ∧ Hid (Kp [] w W)) := hide (fun W hk => ⟨⟨(hP.kp hk (by simp)).cell rfl, (hP.kp hk (by simp)).cell rfl, (hN.kp hk (by simp)).cell rfl, (hN.kp hk (by simp)).cell rfl, (hN.kp hk (by simp)).cell rfl⟩, hide (k0.trans hk (by simp))⟩)
  have HR : Hid (nfB ⟨stgs l, wi⟩ n = if nkE ⟨stgs l, wi⟩ n = 0 then decide (n.st = (l.length : Int)) else false) := hide (by unfold nfB; dsimp only; rw [stgs_len])
  generalize nkE ⟨stgs l, wi⟩ n = R at *
  generalize nfB ⟨stgs l, wi⟩ n = F at *
  clear h hT hok hl k0 hP hN
  generalize l.length = nn at *
  obtain ⟨st, a, b⟩ := n
  unfold Nd.c at *
  dsimp only at *
  obtain ⟨⟨c0, c1, c2, c3, c4⟩, _⟩ := unhide HV _ (Kp.refl _ _)
  go_enter Tryz.func12, Tryz.ntmps12
  go_wp2_with fail
  refine (unhide CK).mono ?_
  rintro e w1 ⟨rfl, hk1⟩
  obtain ⟨⟨d0, d1, d2, d3, d4⟩, HW1⟩ := unhide HV _ hk1
  clear c0 c1 c2 c3 c4 CK hk1 HV
  have hF := unhide HR
  clear HR
  by_cases hp : R = 0
  · subst hp
    rw [if_pos rfl] at hF
    subst hF
    go_wp2
    exact bodyPost_ret (results_tmp2 rfl _ _ _) rfl ⟨by simp [beq_dec], unhide HW1⟩
  · rw [if_neg hp] at hF
    subst hF
    have g : (R != 0) = true := by simp [hp]
    clear hp
    go_wp2
    exact bodyPost_ret (results_tmp2 rfl _ _ _) rfl ⟨rfl, unhide HW1⟩
set_option maxHeartbeats 2000000 in
set_option maxRecDepth 100000 in
theorem nbegun_any (sa : Option Addr) (sc : Nat) (l : List SR) (wi s : Int) (w : World) (h : StsAt w sa l) (hT : TbE w) (hok : ∀ r ∈ l, r.s.ok) (hl : l.length ≤ 9223372036854775807) :
    Calls Tryz.prog 14 #[.agg #[.slice sa l.length sc, .int .i64 wi], .int .i64 s] w fun e w' => e = .returned (.tuple #[.agg (nbN ⟨stgs l, wi⟩ s).c, .int .i64 (nbE ⟨stgs l, wi⟩ s)]) ∧ Kp [] w w' := by
  obtain ⟨k0, hN⟩ := nb_all w (.cells #[.slice sa l.length sc, .int .i64 wi] 24) (.int .i64 0) (.bool false) (.bool false) 26
  have hP := rp_b0 w #[.slice sa l.length sc, .int .i64 wi] 24 (.cells #[.int .i64 0, .bool false, .bool false] 26)
  have CK := hide (pcheck_any sa sc l wi _ (h.kp k0) (hT.kp k0 (by simp)) hok hl)
  have IS := hide (fun W => nisStage_any sa sc l.length wi (stgs l) (stgs_len l) s W)
  have TK : Hid (isS (stgs l) s = true → ∀ W, Kp [] w W → Calls Tryz.prog 31 #[.agg #[.slice sa l.length sc, .int .i64 wi], .int .i64 s] W fun e w' => e = .returned (.agg (bgN (stgs l) s.toNat).c) ∧ Kp [] W w') := hide (fun hs W hk => by
    obtain ⟨g1, g2⟩ := isS_iff.1 hs
    rw [stgs_len] at g2
    have := taken_any sa sc l wi s.toNat W (h.kp hk) hl (by omega) (by omega)
    rwa [show ((s.toNat : Nat) : Int) = s by omega] at this)
  have HV : Hid (∀ W, Kp [] ((w.alloc (.cells #[.slice sa l.length sc, .int .i64 wi] 24)).alloc (.cells #[.int .i64 0, .bool false, .bool false] 26)) W → (W.cell? ⟨w.heap.size, 0, none⟩ = some (.slice sa l.length sc) ∧ W.cell? ⟨w.heap.size, 1, none⟩ = some (.int .i64 wi) ∧ W.cell? ⟨w.heap.size + 1, 0, none⟩ = some (.int .i64 0) ∧ W.cell? ⟨w.heap.size + 1, 1, none⟩ = some (.bool false) ∧ W.cell? ⟨w.heap.size + 1, 2, none⟩ = some (.bool false)) ∧ (W.frozen? ⟨w.heap.size + 1, 0, none⟩ = false ∧ W.frozen? ⟨w.heap.size + 1, 1, none⟩ = false ∧ W.frozen? ⟨w.heap.size + 1, 2, none⟩ = false) ∧ Hid (Kp [] w W) ∧ Hid (CBox (w.heap.size + 1) #[.int .i64 0, .bool false, .bool false] 26 W)) := hide (fun W hk => ⟨⟨(hP.kp hk (by simp)).cell rfl, (hP.kp hk (by simp)).cell rfl, (hN.kp hk (by simp)).cell rfl, (hN.kp hk (by simp)).cell rfl, (hN.kp hk (by simp)).cell rfl⟩, ⟨(hN.kp hk (by simp)).froz _, (hN.kp hk (by simp)).froz _, (hN.kp hk (by simp)).froz _⟩, hide (k0.trans hk (by simp)), hide (hN.kp hk (by simp))⟩)
  have HE : Hid (nbE ⟨stgs l, wi⟩ s = if (pcR ⟨stgs l, wi⟩).2 = 0 then (if isS (stgs l) s then 0 else 1) else (pcR ⟨stgs l, wi⟩).2) := hide rfl
  have HN : Hid (nbN ⟨stgs l, wi⟩ s = if nbE ⟨stgs l, wi⟩ s = 0 then bgN (stgs l) s.toNat else zN) := hide rfl
  generalize (pcR ⟨stgs l, wi⟩).1 = PA at *
  generalize (pcR ⟨stgs l, wi⟩).2 = PC at *
  generalize isS (stgs l) s = I at *
  generalize nbE ⟨stgs l, wi⟩ s = R at *
  generalize nbN ⟨stgs l, wi⟩ s = ND at *
  generalize bgN (stgs l) s.toNat = T1 at *
  clear h hT hok hl k0 hP hN
  generalize l.length = nn at *
  obtain ⟨⟨c0, c1, c2, c3, c4⟩, ⟨f0, f1, f2⟩, _⟩ := unhide HV _ (Kp.refl _ _)
  go_enter Tryz.func14, Tryz.ntmps14
  go_wp2_with fail
  refine (unhide CK).mono ?_
  rintro e w1 ⟨rfl, hb1⟩
  have HK1 := hide (Kp.ofBelow hb1)
  obtain ⟨⟨d0, d1, d2, d3, d4⟩, ⟨g0, g1, g2⟩, HW1, HB1⟩ := unhide HV _ (unhide HK1)
  clear c0 c1 c2 c3 c4 f0 f1 f2 hb1 CK
  by_cases hp : PC = 0
  · subst hp
    have hE := unhide HE
    rw [if_pos rfl] at hE
    clear HE
    go_wp2_with fail
    refine (unhide IS _).mono ?_
    rintro e w2 ⟨rfl, hk2⟩
    have HK2 := hide ((unhide HK1).trans hk2 (by simp))
    obtain ⟨⟨d0', d1', d2', d3', d4'⟩, ⟨g0', g1', g2'⟩, HW2, HB2⟩ := unhide HV _ (unhide HK2)
    clear hk2 IS d0 d1 d2 d3 d4 g0 g1 g2 HK1 HW1 HB1
    cases I with
    | true =>
      rw [if_pos rfl] at hE
      subst hE
      have hN := unhide HN
      rw [if_pos rfl] at hN
      subst hN
      have T := hide (unhide TK rfl w2 (unhide HW2))
      clear TK HN
      go_wp2_with fail
      refine (unhide T).mono ?_
      rintro e w3 ⟨rfl, hk3⟩
      obtain ⟨⟨-, -, e2, e3, e4⟩, ⟨g0, g1, g2⟩, HW3, HB3⟩ := unhide HV _ ((unhide HK2).trans hk3 (by simp))
      have HO := hide (nb_end (unhide HW3) (by omega) (unhide HB3) (.int .i64 ND.st) (.bool ND.lp) (.bool ND.tk))
      unfold Nd.c
      clear T hk3 HV HK2 HW2 HB2 HB3 HW3 d0' d1' d2' d3' d4' g0' g1' g2'
      go_wp2
      obtain ⟨hx, hy⟩ := unhide HO
      exact bodyPost_ret (results_row_tmp Tryz.results14 _ _ (w.heap.size + 1) 26 _ (0, 0) _ rfl hx Tryz.underlying26 rfl info_node) rfl ⟨rfl, hy⟩
    | false =>
      rw [if_neg (by simp)] at hE
      subst hE
      have hN := unhide HN
      rw [if_neg (by omega)] at hN
      subst hN
      have HO := hide (nb_end (unhide HW2) (by omega) (unhide HB2) (.int .i64 0) (.bool false) (.bool false))
      clear TK HN HV HK2 HW2 HB2
      go_wp2
      obtain ⟨hx, hy⟩ := unhide HO
      exact bodyPost_ret (results_row_tmp Tryz.results14 _ _ (w.heap.size + 1) 26 _ (0, 0) _ rfl hx Tryz.underlying26 rfl info_node) rfl ⟨rfl, hy⟩
  · have hE := unhide HE
    rw [if_neg hp] at hE
    subst hE
    have hN := unhide HN
    rw [if_neg hp] at hN
    subst hN
    have g : (R != 0) = true := by simp [hp]
    have HO := hide (nb_end (unhide HW1) (by omega) (unhide HB1) (.int .i64 0) (.bool false) (.bool false))
    clear TK HN HV HK1 HW1 HB1 HE IS hp
    go_wp2
    obtain ⟨hx, hy⟩ := unhide HO
    exact bodyPost_ret (results_row_tmp Tryz.results14 _ _ (w.heap.size + 1) 26 _ (0, 0) _ rfl hx Tryz.underlying26 rfl info_node) rfl ⟨rfl, hy⟩
/-- A pattern's box, a node's, and one for the steps that are given back. -/
structure SpB (w W : World) (pc : Array Value) (n : Nd) : Prop where
  p : CBox w.heap.size pc 24 W
  n : CBox (w.heap.size + 1) n.c 26 W
  r : CBox (w.heap.size + 1 + 1) zS.c 29 W
  k : Kp [] w W
theorem SpB.new (w : World) (pc : Array Value) (n : Nd) : SpB w (((w.alloc (.cells pc 24)).alloc (.cells n.c 26)).alloc (.cells zS.c 29)) pc n := by
  have e1 : (w.alloc (.cells pc 24)).heap.size = w.heap.size + 1 := by simp
  have e2 : ((w.alloc (.cells pc 24)).alloc (.cells n.c 26)).heap.size = w.heap.size + 1 + 1 := by simp
  refine ⟨?_, ?_, ?_, ((Kp.alloc _ _).trans (Kp.alloc _ _) (by simp)).trans (Kp.alloc _ _) (by simp)⟩
  · exact ((CBox.new w _ _).kp (Kp.alloc _ _) (by simp)).kp (Kp.alloc _ _) (by simp)
  · have := (CBox.new (w.alloc (.cells pc 24)) n.c 26).kp (Kp.alloc _ (.cells zS.c 29)) (by simp)
    rwa [e1] at this
  · have := CBox.new ((w.alloc (.cells pc 24)).alloc (.cells n.c 26)) zS.c 29
    rwa [e2] at this
theorem SpB.kp {w W W' : World} {pc : Array Value} {n : Nd} (h : SpB w W pc n) (hk : Kp [] W W') : SpB w W' pc n :=
  ⟨h.p.kp hk (by simp), h.n.kp hk (by simp), h.r.kp hk (by simp), h.k.trans hk (by simp)⟩
theorem SpB.cells {w W : World} {v u : Value} {n : Nd} (h : SpB w W #[v, u] n) : (W.cell? ⟨w.heap.size, 0, none⟩ = some v ∧ W.cell? ⟨w.heap.size, 1, none⟩ = some u) ∧ W.cell? ⟨w.heap.size + 1, 0, none⟩ = some (.int .i64 n.st) ∧ W.cell? ⟨w.heap.size + 1, 1, none⟩ = some (.bool n.lp) ∧ W.cell? ⟨w.heap.size + 1, 2, none⟩ = some (.bool n.tk) :=
  ⟨⟨h.p.cell rfl, h.p.cell rfl⟩, h.n.cell rfl, h.n.cell rfl, h.n.cell rfl⟩
/-- All cells of a row of steps that is zero. -/
theorem zs_cells {g : Nat} {W : World} (h : CBox g zS.c 29 W) : (W.cell? ⟨g, 0, none⟩ = some (.int .i64 0) ∧ W.cell? ⟨g, 1, none⟩ = some (.bool false) ∧ W.cell? ⟨g, 2, none⟩ = some (.bool false) ∧ W.cell? ⟨g, 3, none⟩ = some (.int .i64 0) ∧ W.cell? ⟨g, 4, none⟩ = some (.bool false) ∧ W.cell? ⟨g, 5, none⟩ = some (.bool false) ∧ W.cell? ⟨g, 6, none⟩ = some (.int .i64 0) ∧ W.cell? ⟨g, 7, none⟩ = some (.bool false) ∧ W.cell? ⟨g, 8, none⟩ = some (.bool false) ∧ W.cell? ⟨g, 9, none⟩ = some (.bool false) ∧ W.cell? ⟨g, 10, none⟩ = some (.bool false) ∧ W.cell? ⟨g, 11, none⟩ = some (.bool false)) ∧ (W.frozen? ⟨g, 0, none⟩ = false ∧ W.frozen? ⟨g, 1, none⟩ = false ∧ W.frozen? ⟨g, 2, none⟩ = false ∧ W.frozen? ⟨g, 3, none⟩ = false ∧ W.frozen? ⟨g, 4, none⟩ = false ∧ W.frozen? ⟨g, 5, none⟩ = false ∧ W.frozen? ⟨g, 6, none⟩ = false ∧ W.frozen? ⟨g, 7, none⟩ = false ∧ W.frozen? ⟨g, 8, none⟩ = false ∧ W.frozen? ⟨g, 9, none⟩ = false ∧ W.frozen? ⟨g, 10, none⟩ = false ∧ W.frozen? ⟨g, 11, none⟩ = false) :=
  ⟨⟨h.cell rfl, h.cell rfl, h.cell rfl, h.cell rfl, h.cell rfl, h.cell rfl, h.cell rfl, h.cell rfl, h.cell rfl, h.cell rfl, h.cell rfl, h.cell rfl⟩, h.froz _, h.froz _, h.froz _, h.froz _, h.froz _, h.froz _, h.froz _, h.froz _, h.froz _, h.froz _, h.froz _, h.froz _⟩
set_option maxHeartbeats 2000000 in
set_option maxRecDepth 100000 in
theorem nstep_any (sa : Option Addr) (sc : Nat) (l : List SR) (wi : Int) (n : Nd) (lo ta : Bool) (w : World) (h : StsAt w sa l) (hT : TbE w) (hok : ∀ r ∈ l, r.s.ok) (hl : l.length ≤ 9223372036854775807) :
    Calls Tryz.prog 10 #[.agg #[.slice sa l.length sc, .int .i64 wi], .agg n.c, .bool lo, .bool ta] w fun e w' => e = .returned (.tuple #[.agg (nsS ⟨stgs l, wi⟩ n lo ta).c, .int .i64 (nkE ⟨stgs l, wi⟩ n)]) ∧ Kp [] w w' := by
  have B0 := SpB.new w #[.slice sa l.length sc, .int .i64 wi] n
  have CK := hide (ncheck_any sa sc l wi n _ (h.kp B0.k) (hT.kp B0.k (by simp)) hok hl)
  have ST : Hid (nkE ⟨stgs l, wi⟩ n = 0 → ∀ W, Kp [] w W → Calls Tryz.prog 28 #[.agg #[.slice sa l.length sc, .int .i64 wi], .agg n.c, .bool lo, .bool ta] W fun e w' => e = .returned (.agg (stpN (stgs l) n lo ta).c) ∧ Kp [] W w') := hide (fun h0 W hk => step_any sa sc l wi n lo ta W (h.kp hk) hl (nk_ok h0).2)
  have HS : Hid (nsS ⟨stgs l, wi⟩ n lo ta = if nkE ⟨stgs l, wi⟩ n = 0 then stpN (stgs l) n lo ta else zS) := hide rfl
  generalize nkE ⟨stgs l, wi⟩ n = R at *
  generalize nsS ⟨stgs l, wi⟩ n lo ta = Y at *
  generalize stpN (stgs l) n lo ta = X at *
  clear h hT hok hl
  generalize l.length = nn at *
  obtain ⟨⟨p0, p1⟩, c0, c1, c2⟩ := B0.cells
  have HB0 := hide B0
  obtain ⟨st, a, b⟩ := n
  clear B0
  unfold Nd.c zS zN Sps.c at CK HB0 p0 p1 c0 c1 c2
  unfold Nd.c at ST ⊢
  dsimp only at CK HB0 p0 p1 c0 c1 c2 ST ⊢
  go_enter Tryz.func10, Tryz.ntmps10
  go_wp2_with fail
  refine (unhide CK).mono ?_
  rintro e w1 ⟨rfl, hk1⟩
  have HB1 := hide ((unhide HB0).kp hk1)
  clear HB0 hk1 CK p0 p1 c0 c1 c2
  have hS := unhide HS
  clear HS
  by_cases hp : R = 0
  · subst hp
    rw [if_pos rfl] at hS
    subst hS
    obtain ⟨⟨p0, p1⟩, c0, c1, c2⟩ := (unhide HB1).cells
    have T := hide (unhide ST rfl w1 (unhide HB1).k)
    dsimp only at c0 c1 c2
    clear ST
    go_wp2_with fail
    refine (unhide T).mono ?_
    rintro e w2 ⟨rfl, hk2⟩
    have HB2 := hide ((unhide HB1).kp hk2)
    have br := (unhide HB2).r
    obtain ⟨⟨z0, z1, z2, z3, z4, z5, z6, z7, z8, z9, z10, z11⟩, f0, f1, f2, f3, f4, f5, f6, f7, f8, f9, f10, f11⟩ := zs_cells br
    obtain ⟨⟨l0, l1, l2⟩, ⟨t0, t1, t2⟩, ⟨v0, v1, v2⟩, cl, ct, cw⟩ := Y
    have HE := hide (put12 (show CBox (w.heap.size + 1 + 1) #[.int .i64 0, .bool false, .bool false, .int .i64 0, .bool false, .bool false, .int .i64 0, .bool false, .bool false, .bool false, .bool false, .bool false] 29 w2 from br) (.int .i64 l0) (.bool l1) (.bool l2) (.int .i64 t0) (.bool t1) (.bool t2) (.int .i64 v0) (.bool v1) (.bool v2) (.bool cl) (.bool ct) (.bool cw))
    have HG := hide (fun W (hk : Kp [w.heap.size + 1 + 1] w2 W) => (unhide HB2).k.trans hk (fun x hx => Or.inr (by simp only [List.mem_singleton] at hx; omega)))
    unfold Sps.c
    dsimp only
    clear T hk2 HB1 HB2 br p0 p1 c0 c1 c2
    go_wp2
    obtain ⟨hx, hy⟩ := unhide HE
    exact bodyPost_ret (results_row_tmp Tryz.results10 _ _ (w.heap.size + 1 + 1) 29 _ (0, 0) _ rfl hx Tryz.underlying29 rfl info_steps) rfl ⟨rfl, unhide HG _ hy⟩
  · rw [if_neg hp] at hS
    subst hS
    have g : (R != 0) = true := by simp [hp]
    have br := (unhide HB1).r
    obtain ⟨⟨z0, z1, z2, z3, z4, z5, z6, z7, z8, z9, z10, z11⟩, f0, f1, f2, f3, f4, f5, f6, f7, f8, f9, f10, f11⟩ := zs_cells br
    have HE := hide (put12 (show CBox (w.heap.size + 1 + 1) #[.int .i64 0, .bool false, .bool false, .int .i64 0, .bool false, .bool false, .int .i64 0, .bool false, .bool false, .bool false, .bool false, .bool false] 29 w1 from br) (.int .i64 0) (.bool false) (.bool false) (.int .i64 0) (.bool false) (.bool false) (.int .i64 0) (.bool false) (.bool false) (.bool false) (.bool false) (.bool false))
    have HG := hide (fun W (hk : Kp [w.heap.size + 1 + 1] w1 W) => (unhide HB1).k.trans hk (fun x hx => Or.inr (by simp only [List.mem_singleton] at hx; omega)))
    clear ST HB1 br hp
    go_wp2
    obtain ⟨hx, hy⟩ := unhide HE
    exact bodyPost_ret (results_row_tmp Tryz.results10 _ _ (w.heap.size + 1 + 1) 29 _ (0, 0) _ rfl hx Tryz.underlying29 rfl info_steps) rfl ⟨rfl, unhide HG _ hy⟩
end Go.Proofs.YtgcmfcidmmjfiaaGreatDoor
namespace Go.Proofs.YtgcmfcidmmjfiaaGreatDoor
open Go.RowKit

def fldV : Array Value := #[.string ⟨#[110, 48]⟩, .string ⟨#[110, 49]⟩, .string ⟨#[110, 50]⟩, .string ⟨#[110, 51]⟩, .string ⟨#[116, 121, 112, 101]⟩, .string ⟨#[116, 101, 120, 116]⟩]
theorem fldV_at (k : Nat) (h : k < 6) : fldV[k]? = some (.string (txt (fldW.getD k []))) := by
  rcases (show k = 0 ∨ k = 1 ∨ k = 2 ∨ k = 3 ∨ k = 4 ∨ k = 5 by omega) with rfl | rfl | rfl | rfl | rfl | rfl <;> rfl
theorem fldOf_at (k : Nat) (h : k < 6) : fldOf (fldW.getD k []) = (k : Int) := by
  rcases (show k = 0 ∨ k = 1 ∨ k = 2 ∨ k = 3 ∨ k = 4 ∨ k = 5 by omega) with rfl | rfl | rfl | rfl | rfl | rfl <;> decide
theorem rFields_any (w : World) : Calls Tryz.prog 91 #[] w fun e w' => e = .returned (.slice (some ⟨w.heap.size, 0, none⟩) 6 6) ∧ CBox w.heap.size fldV 9 w' ∧ Kp [] w w' := by
  go_enter Tryz.func91, Tryz.ntmps91
  go_wp2
  go_ret
  exact ⟨rfl, CBox.new w _ _, Kp.alloc _ _⟩
set_option maxHeartbeats 1000000 in
set_option maxRecDepth 100000 in
theorem rField_any (s : ByteArray) (w : World) : Calls Tryz.prog 111 #[.string s] w fun e w' => e = .returned (.int .i64 (fldOf s.data.toList)) ∧ Kp [] w w' := by
  have tl := toList_data s
  generalize hl : s.data.toList = l at tl ⊢
  clear hl
  obtain ⟨F, hF⟩ : ∃ F, fldOf l = F := ⟨_, rfl⟩
  rw [hF]
  have HF := hide hF
  have HTL := hide tl
  clear hF tl
  go_enter Tryz.func111, Tryz.ntmps111
  go_wp2_with fail
  refine (rFields_any w).mono ?_
  rintro e w1 ⟨rfl, hbx, hk⟩
  have HBX := hide hbx
  have HK := hide hk
  have hlt := (Array.getElem?_eq_some_iff.1 hbx).1
  clear hbx hk
  go_wp2_with fail
  go_loop [4] (fun i => ∃ k : Nat, k ≤ 6 ∧ Hid (noFd l k) ∧ i = .int .i64 (k : Int)) (fun i => 6 - (intOf i).toNat)
  case atStart => exact ⟨0, by omega, hide (fun j hj => by omega), rfl⟩
  case round =>
    obtain ⟨k, hk, HN, rfl⟩ := hrel
    by_cases hlt6 : k < 6
    · have c := (unhide HBX).cell (fldV_at k hlt6)
      have hli : (k : Int) < 6 := by omega
      by_cases e : l = fldW.getD k []
      · have g2 : ((txt (fldW.getD k [])).toList == s.toList) = true := by rw [toList_data, txt_list, unhide HTL, e]; exact beq_self_eq_true _
        obtain rfl : F = (k : Int) := by rw [← unhide HF, e]; exact fldOf_at k hlt6
        clear e HF HN
        generalize txt (fldW.getD k []) = FS at *
        go_wp2
        go_ret
        exact ⟨rfl, unhide HK⟩
      · have g2 : ((txt (fldW.getD k [])).toList == s.toList) = false := by rw [toList_data, txt_list, unhide HTL]; exact beq_eq_false_iff_ne.2 (fun h => e h.symm)
        have HN2 : Hid (noFd l (k + 1)) := hide (noFd_next (unhide HN) e)
        clear e
        generalize txt (fldW.getD k []) = FS at *
        go_wp2
        go_round
        case rel => exact ⟨k + 1, by omega, HN2, by go_num⟩
        case measure => simp [intOf]; omega
    · obtain rfl : k = 6 := by omega
      obtain rfl : F = -1 := by rw [← unhide HF]; exact fldOf_no (unhide HN)
      go_wp2
      go_ret
      exact ⟨rfl, unhide HK⟩
/-- Does a word name no stage? -/
theorem rKeyword_any (s : ByteArray) (w : World) : Calls Tryz.prog 86 #[.string s] w fun e w' => e = .returned (.bool (!freeW s.data.toList)) ∧ Kp [] w w' := by
  have FA := hide (rField_any s w)
  have tl := toList_data s
  obtain ⟨R, hR⟩ : ∃ R, (!freeW s.data.toList) = R := ⟨_, rfl⟩
  rw [hR]
  unfold freeW at hR
  generalize s.data.toList = l at *
  have q1 : (s.toList == [111, 114]) = decide (l = [111, 114]) := by rw [tl, Bool.eq_iff_iff, beq_iff_eq, decide_eq_true_eq]
  have q2 : (s.toList == [97, 110, 100]) = decide (l = [97, 110, 100]) := by rw [tl, Bool.eq_iff_iff, beq_iff_eq, decide_eq_true_eq]
  have q3 : (s.toList == [110, 111, 116]) = decide (l = [110, 111, 116]) := by rw [tl, Bool.eq_iff_iff, beq_iff_eq, decide_eq_true_eq]
  generalize decide (l = [111, 114]) = b1 at *
  generalize decide (l = [97, 110, 100]) = b2 at *
  generalize decide (l = [110, 111, 116]) = b3 at *
  generalize fldOf l = F at *
  have HR := hide hR
  clear hR tl
  by_cases hf : 0 ≤ F
  · have g : (0 ≤ F) = True := eq_true hf
    have e : R = true := by rw [← unhide HR, decide_eq_false (by omega)]; simp
    subst e
    go_enter Tryz.func86, Tryz.ntmps86
    go_wp2_with fail
    refine (unhide FA).mono ?_
    rintro e w1 ⟨rfl, hk⟩
    clear FA HR
    go_wp2
    go_ret
    exact ⟨rfl, hk⟩
  · have g : (0 ≤ F) = False := eq_false hf
    have e : R = (b1 || b2 || b3) := by rw [← unhide HR, decide_eq_true (by omega)]; simp
    subst e
    clear HR
    cases b1 <;> cases b2 <;> cases b3
    all_goals
      go_enter Tryz.func86, Tryz.ntmps86
      go_wp2_with fail
      refine (unhide FA).mono ?_
      rintro e w1 ⟨rfl, hk⟩
      clear FA
      go_wp2
      go_ret
      exact ⟨rfl, hk⟩
end Go.Proofs.YtgcmfcidmmjfiaaGreatDoor
namespace Go.Proofs.YtgcmfcidmmjfiaaGreatDoor
open Go.RowKit

set_option maxHeartbeats 2000000 in
set_option maxRecDepth 100000 in
theorem rOf_any (op a b : Int) (w : World) : Calls Tryz.prog 113 #[.int .i64 op, .int .i64 a, .int .i64 b] w fun e w' => e = .returned (.int .i64 (opK op a b)) ∧ w' = w := by
  by_cases hop : 4 ≤ op ∧ op ≤ 13
  · rcases (show op = 4 ∨ op = 5 ∨ op = 6 ∨ op = 7 ∨ op = 8 ∨ op = 9 ∨ op = 10 ∨ op = 11 ∨ op = 12 ∨ op = 13 by omega) with rfl | rfl | rfl | rfl | rfl | rfl | rfl | rfl | rfl | rfl
    all_goals
      clear hop
      by_cases a1 : a = 1
      · subst a1
        by_cases b1 : b = 1
        · subst b1
          go_enter Tryz.func113, Tryz.ntmps113
          go_wp2
          go_ret
          exact ⟨rfl, rfl⟩
        · have g : (b == 1) = false := beq_eq_false_iff_ne.2 b1
          have g2 : ((1 : Int) == b) = false := beq_eq_false_iff_ne.2 (fun h => b1 h.symm)
          go_enter Tryz.func113, Tryz.ntmps113
          go_wp2
          go_ret
          exact ⟨ret_int (by unfold opK; simp [b1]; try omega), rfl⟩
      · have ga : (a == 1) = false := beq_eq_false_iff_ne.2 a1
        by_cases a2 : a = 2
        · subst a2
          by_cases b1 : b = 2
          · subst b1
            go_enter Tryz.func113, Tryz.ntmps113
            go_wp2
            go_ret
            exact ⟨rfl, rfl⟩
          · have g : (b == 2) = false := beq_eq_false_iff_ne.2 b1
            have g2 : ((2 : Int) == b) = false := beq_eq_false_iff_ne.2 (fun h => b1 h.symm)
            go_enter Tryz.func113, Tryz.ntmps113
            go_wp2
            go_ret
            exact ⟨ret_int (by unfold opK; simp; try omega), rfl⟩
        · have ga2 : (a == 2) = false := beq_eq_false_iff_ne.2 a2
          by_cases a3 : a = 3
          · subst a3
            by_cases b1 : b = 3
            · subst b1
              go_enter Tryz.func113, Tryz.ntmps113
              go_wp2
              go_ret
              exact ⟨rfl, rfl⟩
            · have g : (b == 3) = false := beq_eq_false_iff_ne.2 b1
              have g2 : ((3 : Int) == b) = false := beq_eq_false_iff_ne.2 (fun h => b1 h.symm)
              go_enter Tryz.func113, Tryz.ntmps113
              go_wp2
              go_ret
              exact ⟨ret_int (by unfold opK; simp [b1]; try omega), rfl⟩
          · have ga3 : (a == 3) = false := beq_eq_false_iff_ne.2 a3
            by_cases b1 : a = b
            · subst b1
              go_enter Tryz.func113, Tryz.ntmps113
              go_wp2
              go_ret
              exact ⟨ret_int (by unfold opK; simp [a1, a2, a3]; try omega), rfl⟩
            · have g : (a == b) = false := beq_eq_false_iff_ne.2 b1
              go_enter Tryz.func113, Tryz.ntmps113
              go_wp2
              go_ret
              exact ⟨ret_int (by unfold opK; simp [a1, a2, a3]; try omega), rfl⟩
  · have g4 : (op == 4) = false := beq_eq_false_iff_ne.2 (by omega)
    have g5 : (op == 5) = false := beq_eq_false_iff_ne.2 (by omega)
    have g6 : (op == 6) = false := beq_eq_false_iff_ne.2 (by omega)
    have g7 : (op == 7) = false := beq_eq_false_iff_ne.2 (by omega)
    have g8 : (op == 8) = false := beq_eq_false_iff_ne.2 (by omega)
    have g9 : (op == 9) = false := beq_eq_false_iff_ne.2 (by omega)
    have g10 : (op == 10) = false := beq_eq_false_iff_ne.2 (by omega)
    have g11 : (op == 11) = false := beq_eq_false_iff_ne.2 (by omega)
    have g12 : (op == 12) = false := beq_eq_false_iff_ne.2 (by omega)
    have g13 : (op == 13) = false := beq_eq_false_iff_ne.2 (by omega)
    have e : opK op a b = 0 := by
      unfold opK
      rw [if_neg (by omega), if_neg (by omega), if_neg (by omega), if_neg (by omega), if_neg (by omega)]
    rw [e]
    clear hop e
    go_enter Tryz.func113, Tryz.ntmps113
    go_wp2
    go_ret
    exact ⟨rfl, rfl⟩
end Go.Proofs.YtgcmfcidmmjfiaaGreatDoor
namespace Go.Proofs.YtgcmfcidmmjfiaaGreatDoor

def nb (c : UInt8) : Bool := (decide ((97 : Int) ≤ (c.toNat : Int)) && decide ((c.toNat : Int) ≤ 122)) || (decide ((48 : Int) ≤ (c.toNat : Int)) && decide ((c.toNat : Int) ≤ 57))
/-- Is a text a name? -/
def nameB (s : ByteArray) : Bool := decide (1 ≤ s.size) && decide (s.size ≤ 32) && s.data.toList.all nb
end Go.Proofs.YtgcmfcidmmjfiaaGreatDoor
