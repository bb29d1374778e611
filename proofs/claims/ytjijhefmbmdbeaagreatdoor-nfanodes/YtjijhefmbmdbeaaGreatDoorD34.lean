/-
  Check, Begun, Step and Final of nfa.
  How long a written text is.
  How a pattern is written: its tokens, plainly; tokens put at a row's end; the tokens of a condition.
  The tokens of a stage.
  Write: a pattern's text.
  works of patterns: the chapter's examples.
-/
import Derived.Test.YtjijhefmbmdbeaaGreatDoorD33
import Derived.Test.YtjijhefmbmdbeaaGreatDoorD27
import Derived.Test.YtjijhefmbmdbeaaGreatDoorD23
import Derived.Test.YtjijhefmbmdbeaaGreatDoorD31
import Derived.Deep.RegionLaw
namespace Go.Proofs.YtjijhefmbmdbeaaGreatDoor
open Go.RowKit Go.Shelf

/-- What Check tells. -/
def nkE (p : Ptn) (n : Nd) : Int := if (pcR p).2 = 0 then (if mayN p.ss n then 0 else 170) else (pcR p).2
def nbE (p : Ptn) (s : Int) : Int := if (pcR p).2 = 0 then (if isS p.ss s then 0 else 1) else (pcR p).2
def nbN (p : Ptn) (s : Int) : Nd := if nbE p s = 0 then bgN p.ss s.toNat else zN
def nsS (p : Ptn) (n : Nd) (lo ta : Bool) : Sps := if nkE p n = 0 then stpN p.ss n lo ta else zS
theorem nk_ok {p : Ptn} {n : Nd} (h : nkE p n = 0) : (pcR p).2 = 0 ∧ mayN p.ss n = true := by
  unfold nkE at h
  by_cases h0 : (pcR p).2 = 0
  · rw [if_pos h0] at h
    refine ⟨h0, ?_⟩
    cases e : mayN p.ss n with
    | true => rfl
    | false => rw [e] at h; simp at h
  · rw [if_neg h0] at h
    exact absurd h h0
set_option maxHeartbeats 2000000 in
set_option maxRecDepth 100000 in
theorem ncheck_any (sa : Option Addr) (sc : Nat) (l : List SR) (wi : Int) (n : Nd) (w : World) (h : StsAt w sa l) (hT : TbE w) (hok : ∀ r ∈ l, r.s.ok) (hl : l.length ≤ 9223372036854775807) :
    Calls Tryz.prog 14 #[.agg #[.slice sa l.length sc, .int .i64 wi], .agg n.c] w fun e w' => e = .returned (.int .i64 (nkE ⟨stgs l, wi⟩ n)) ∧ Kp [] w w' := by
  have k0 : Kp [] w ((w.alloc (.cells #[.slice sa l.length sc, .int .i64 wi] 24)).alloc (.cells n.c 26)) := (Kp.alloc _ _).trans (Kp.alloc _ _) (by simp)
  have hP := rp_b0 w #[.slice sa l.length sc, .int .i64 wi] 24 (.cells n.c 26)
  have hN := rp_b1 w n.c 26 (.cells #[.slice sa l.length sc, .int .i64 wi] 24)
  have CK := hide (pcheck_any sa sc l wi _ (h.kp k0) (hT.kp k0 (by simp)) hok hl)
  have MB := hide (fun W (hk : Kp [] w W) => mayBe_any sa sc l wi n W (h.kp hk) hl)
  have HV : Hid (∀ W, Kp [] ((w.alloc (.cells #[.slice sa l.length sc, .int .i64 wi] 24)).alloc (.cells n.c 26)) W → (W.cell? ⟨w.heap.size, 0, none⟩ = some (.slice sa l.length sc) ∧ W.cell? ⟨w.heap.size, 1, none⟩ = some (.int .i64 wi) ∧ W.cell? ⟨w.heap.size + 1, 0, none⟩ = some (.int .i64 n.st) ∧ W.cell? ⟨w.heap.size + 1, 1, none⟩ = some (.bool n.lp) ∧ W.cell? ⟨w.heap.size + 1, 2, none⟩ = some (.bool n.tk)) ∧ Hid (Kp [] w W)) := hide (fun W hk => ⟨⟨(hP.kp hk (by simp)).cell rfl, (hP.kp hk (by simp)).cell rfl, (hN.kp hk (by simp)).cell rfl, (hN.kp hk (by simp)).cell rfl, (hN.kp hk (by simp)).cell rfl⟩, hide (k0.trans hk (by simp))⟩)
  have HR : Hid (∀ P M, (pcR ⟨stgs l, wi⟩).2 = P → mayN (stgs l) n = M → nkE ⟨stgs l, wi⟩ n = if P = 0 then (if M then 0 else 170) else P) := hide (fun P M e1 e2 => by unfold nkE; rw [e1, e2])
  generalize (pcR ⟨stgs l, wi⟩).1 = PA at *
  generalize (pcR ⟨stgs l, wi⟩).2 = PC at *
  have HR2 := hide (unhide HR PC _ rfl rfl)
  generalize mayN (stgs l) n = M at *
  generalize nkE ⟨stgs l, wi⟩ n = R at *
  clear h hT hok hl k0 hP hN HR
  generalize l.length = nn at *
  obtain ⟨st, a, b⟩ := n
  unfold Nd.c at *
  dsimp only at *
  obtain ⟨⟨c0, c1, c2, c3, c4⟩, _⟩ := unhide HV _ (Kp.refl _ _)
  go_enter Tryz.func14, Tryz.ntmps14
  go_wp2_with fail
  refine (unhide CK).mono ?_
  rintro e w1 ⟨rfl, hb1⟩
  have HK1 := hide (Kp.ofBelow hb1)
  obtain ⟨⟨d0, d1, d2, d3, d4⟩, HW1⟩ := unhide HV _ (unhide HK1)
  clear c0 c1 c2 c3 c4 hb1 CK
  by_cases hp : PC = 0
  · subst hp
    have hR := unhide HR2
    rw [if_pos rfl] at hR
    have MB1 := hide (unhide MB w1 (unhide HW1))
    clear HR2 MB
    go_wp2_with fail
    refine (unhide MB1).mono ?_
    rintro e w2 ⟨rfl, hk2⟩
    have HW2 := hide ((unhide HW1).trans hk2 (by simp))
    clear hk2 MB1 d0 d1 d2 d3 d4 HV HK1 HW1
    cases M with
    | true =>
      rw [if_pos rfl] at hR
      subst hR
      go_wp2
      go_ret
      exact ⟨rfl, unhide HW2⟩
    | false =>
      rw [if_neg (by simp)] at hR
      subst hR
      go_wp2
      go_ret
      exact ⟨rfl, unhide HW2⟩
  · have hR := unhide HR2
    rw [if_neg hp] at hR
    subst hR
    have g : (R != 0) = true := by simp [hp]
    clear HR2 MB hp
    go_wp2
    go_ret
    exact ⟨rfl, unhide HW1⟩
set_option maxHeartbeats 2000000 in
set_option maxRecDepth 100000 in
theorem nbegun_any (sa : Option Addr) (sc : Nat) (l : List SR) (wi s : Int) (w : World) (h : StsAt w sa l) (hT : TbE w) (hok : ∀ r ∈ l, r.s.ok) (hl : l.length ≤ 9223372036854775807) :
    Calls Tryz.prog 12 #[.agg #[.slice sa l.length sc, .int .i64 wi], .int .i64 s] w fun e w' => e = .returned (.tuple #[.agg (nbN ⟨stgs l, wi⟩ s).c, .int .i64 (nbE ⟨stgs l, wi⟩ s)]) ∧ Kp [] w w' := by
  obtain ⟨k0, hN⟩ := nb_all w (.cells #[.slice sa l.length sc, .int .i64 wi] 24) (.int .i64 0) (.bool false) (.bool false) 26
  have hP := rp_b0 w #[.slice sa l.length sc, .int .i64 wi] 24 (.cells #[.int .i64 0, .bool false, .bool false] 26)
  have CK := hide (pcheck_any sa sc l wi _ (h.kp k0) (hT.kp k0 (by simp)) hok hl)
  have IS := hide (fun W => nisStage_any sa sc l.length wi (stgs l) (stgs_len l) s W)
  have TK : Hid (isS (stgs l) s = true → ∀ W, Kp [] w W → Calls Tryz.prog 29 #[.agg #[.slice sa l.length sc, .int .i64 wi], .int .i64 s] W fun e w' => e = .returned (.agg (bgN (stgs l) s.toNat).c) ∧ Kp [] W w') := hide (fun hs W hk => by
    obtain ⟨g1, g2⟩ := isS_iff.1 hs
    rw [stgs_len] at g2
    have := taken_any sa sc l wi s.toNat W (h.kp hk) hl (by omega) (by omega)
    rwa [show ((s.toNat : Nat) : Int) = s by omega] at this)
  have HV : Hid (∀ W, Kp [] ((w.alloc (.cells #[.slice sa l.length sc, .int .i64 wi] 24)).alloc (.cells #[.int .i64 0, .bool false, .bool false] 26)) W → (W.cell? ⟨w.heap.size, 0, none⟩ = some (.slice sa l.length sc) ∧ W.cell? ⟨w.heap.size, 1, none⟩ = some (.int .i64 wi) ∧ W.cell? ⟨w.heap.size + 1, 0, none⟩ = some (.int .i64 0) ∧ W.cell? ⟨w.heap.size + 1, 1, none⟩ = some (.bool false) ∧ W.cell? ⟨w.heap.size + 1, 2, none⟩ = some (.bool false)) ∧ (W.frozen? ⟨w.heap.size + 1, 0, none⟩ = false ∧ W.frozen? ⟨w.heap.size + 1, 1, none⟩ = false ∧ W.frozen? ⟨w.heap.size + 1, 2, none⟩ = false) ∧ Hid (Kp [] w W) ∧ Hid (CBox (w.heap.size + 1) #[.int .i64 0, .bool false, .bool false] 26 W)) := hide (fun W hk => ⟨⟨(hP.kp hk (by simp)).cell rfl, (hP.kp hk (by simp)).cell rfl, (hN.kp hk (by simp)).cell rfl, (hN.kp hk (by simp)).cell rfl, (hN.kp hk (by simp)).cell rfl⟩, ⟨(hN.kp hk (by simp)).froz _, (hN.kp hk (by simp)).froz _, (hN.kp hk (by simp)).froz _⟩, hide (k0.trans hk (by simp)), hide (hN.kp hk (by simp))⟩)
  have HE : Hid (nbE ⟨stgs l, wi⟩ s = if (pcR ⟨stgs l, wi⟩).2 = 0 then (if isS (stgs l) s then 0 else 1) else (pcR ⟨stgs l, wi⟩).2) := hide rfl
  have HN : Hid (nbN ⟨stgs l, wi⟩ s = if nbE ⟨stgs l, wi⟩ s = 0 then bgN (stgs l) s.toNat else zN) := hide rfl
  generalize (pcR ⟨stgs l, wi⟩).1 = PA at *
  generalize (pcR ⟨stgs l, wi⟩).2 = PC at *
  generalize isS (stgs l) s = I at *
  generalize nbE ⟨stgs l, wi⟩ s = R at *
  generalize nbN ⟨stgs l, wi⟩ s = ND at *
  generalize bgN (stgs l) s.toNat = T1 at *
  clear h hT hok hl k0 hP hN
  generalize l.length = nn at *
  obtain ⟨⟨c0, c1, c2, c3, c4⟩, ⟨f0, f1, f2⟩, _⟩ := unhide HV _ (Kp.refl _ _)
  go_enter Tryz.func12, Tryz.ntmps12
  go_wp2_with fail
  refine (unhide CK).mono ?_
  rintro e w1 ⟨rfl, hb1⟩
  have HK1 := hide (Kp.ofBelow hb1)
  obtain ⟨⟨d0, d1, d2, d3, d4⟩, ⟨g0, g1, g2⟩, HW1, HB1⟩ := unhide HV _ (unhide HK1)
  clear c0 c1 c2 c3 c4 f0 f1 f2 hb1 CK
  by_cases hp : PC = 0
  · subst hp
    have hE := unhide HE
    rw [if_pos rfl] at hE
    clear HE
    go_wp2_with fail
    refine (unhide IS _).mono ?_
    rintro e w2 ⟨rfl, hk2⟩
    have HK2 := hide ((unhide HK1).trans hk2 (by simp))
    obtain ⟨⟨d0', d1', d2', d3', d4'⟩, ⟨g0', g1', g2'⟩, HW2, HB2⟩ := unhide HV _ (unhide HK2)
    clear hk2 IS d0 d1 d2 d3 d4 g0 g1 g2 HK1 HW1 HB1
    cases I with
    | true =>
      rw [if_pos rfl] at hE
      subst hE
      have hN := unhide HN
      rw [if_pos rfl] at hN
      subst hN
      have T := hide (unhide TK rfl w2 (unhide HW2))
      clear TK HN
      go_wp2_with fail
      refine (unhide T).mono ?_
      rintro e w3 ⟨rfl, hk3⟩
      obtain ⟨⟨-, -, e2, e3, e4⟩, ⟨g0, g1, g2⟩, HW3, HB3⟩ := unhide HV _ ((unhide HK2).trans hk3 (by simp))
      have HO := hide (nb_end (unhide HW3) (by omega) (unhide HB3) (.int .i64 ND.st) (.bool ND.lp) (.bool ND.tk))
      unfold Nd.c
      clear T hk3 HV HK2 HW2 HB2 HB3 HW3 d0' d1' d2' d3' d4' g0' g1' g2'
      go_wp2
      obtain ⟨hx, hy⟩ := unhide HO
      exact bodyPost_ret (results_row_tmp Tryz.results12 _ _ (w.heap.size + 1) 26 _ (0, 0) _ rfl hx Tryz.underlying26 rfl info_node) rfl ⟨rfl, hy⟩
    | false =>
      rw [if_neg (by simp)] at hE
      subst hE
      have hN := unhide HN
      rw [if_neg (by omega)] at hN
      subst hN
      have HO := hide (nb_end (unhide HW2) (by omega) (unhide HB2) (.int .i64 0) (.bool false) (.bool false))
      clear TK HN HV HK2 HW2 HB2
      go_wp2
      obtain ⟨hx, hy⟩ := unhide HO
      exact bodyPost_ret (results_row_tmp Tryz.results12 _ _ (w.heap.size + 1) 26 _ (0, 0) _ rfl hx Tryz.underlying26 rfl info_node) rfl ⟨rfl, hy⟩
  · have hE := unhide HE
    rw [if_neg hp] at hE
    subst hE
    have hN := unhide HN
    rw [if_neg hp] at hN
    subst hN
    have g : (R != 0) = true := by simp [hp]
    have HO := hide (nb_end (unhide HW1) (by omega) (unhide HB1) (.int .i64 0) (.bool false) (.bool false))
    clear TK HN HV HK1 HW1 HB1 HE IS hp
    go_wp2
    obtain ⟨hx, hy⟩ := unhide HO
    exact bodyPost_ret (results_row_tmp Tryz.results12 _ _ (w.heap.size + 1) 26 _ (0, 0) _ rfl hx Tryz.underlying26 rfl info_node) rfl ⟨rfl, hy⟩
/-- A pattern's box, a node's, and one for the steps that are given back. -/
structure SpB (w W : World) (pc : Array Value) (n : Nd) : Prop where
  p : CBox w.heap.size pc 24 W
  n : CBox (w.heap.size + 1) n.c 26 W
  r : CBox (w.heap.size + 1 + 1) zS.c 29 W
  k : Kp [] w W
theorem SpB.new (w : World) (pc : Array Value) (n : Nd) : SpB w (((w.alloc (.cells pc 24)).alloc (.cells n.c 26)).alloc (.cells zS.c 29)) pc n := by
  have e1 : (w.alloc (.cells pc 24)).heap.size = w.heap.size + 1 := by simp
  have e2 : ((w.alloc (.cells pc 24)).alloc (.cells n.c 26)).heap.size = w.heap.size + 1 + 1 := by simp
  refine ⟨?_, ?_, ?_, ((Kp.alloc _ _).trans (Kp.alloc _ _) (by simp)).trans (Kp.alloc _ _) (by simp)⟩
  · exact ((CBox.new w _ _).kp (Kp.alloc _ _) (by simp)).kp (Kp.alloc _ _) (by simp)
  · have := (CBox.new (w.alloc (.cells pc 24)) n.c 26).kp (Kp.alloc _ (.cells zS.c 29)) (by simp)
    rwa [e1] at this
  · have := CBox.new ((w.alloc (.cells pc 24)).alloc (.cells n.c 26)) zS.c 29
    rwa [e2] at this
theorem SpB.kp {w W W' : World} {pc : Array Value} {n : Nd} (h : SpB w W pc n) (hk : Kp [] W W') : SpB w W' pc n :=
  ⟨h.p.kp hk (by simp), h.n.kp hk (by simp), h.r.kp hk (by simp), h.k.trans hk (by simp)⟩
theorem SpB.cells {w W : World} {v u : Value} {n : Nd} (h : SpB w W #[v, u] n) : (W.cell? ⟨w.heap.size, 0, none⟩ = some v ∧ W.cell? ⟨w.heap.size, 1, none⟩ = some u) ∧ W.cell? ⟨w.heap.size + 1, 0, none⟩ = some (.int .i64 n.st) ∧ W.cell? ⟨w.heap.size + 1, 1, none⟩ = some (.bool n.lp) ∧ W.cell? ⟨w.heap.size + 1, 2, none⟩ = some (.bool n.tk) :=
  ⟨⟨h.p.cell rfl, h.p.cell rfl⟩, h.n.cell rfl, h.n.cell rfl, h.n.cell rfl⟩
/-- All cells of a row of steps that is zero. -/
theorem zs_cells {g : Nat} {W : World} (h : CBox g zS.c 29 W) : (W.cell? ⟨g, 0, none⟩ = some (.int .i64 0) ∧ W.cell? ⟨g, 1, none⟩ = some (.bool false) ∧ W.cell? ⟨g, 2, none⟩ = some (.bool false) ∧ W.cell? ⟨g, 3, none⟩ = some (.int .i64 0) ∧ W.cell? ⟨g, 4, none⟩ = some (.bool false) ∧ W.cell? ⟨g, 5, none⟩ = some (.bool false) ∧ W.cell? ⟨g, 6, none⟩ = some (.int .i64 0) ∧ W.cell? ⟨g, 7, none⟩ = some (.bool false) ∧ W.cell? ⟨g, 8, none⟩ = some (.bool false) ∧ W.cell? ⟨g, 9, none⟩ = some (.bool false) ∧ W.cell? ⟨g, 10, none⟩ = some (.bool false) ∧ W.cell? ⟨g, 11, none⟩ = some (.bool false)) ∧ (W.frozen? ⟨g, 0, none⟩ = false ∧ W.frozen? ⟨g, 1, none⟩ = false ∧ W.frozen? ⟨g, 2, none⟩ = false ∧ W.frozen? ⟨g, 3, none⟩ = false ∧ W.frozen? ⟨g, 4, none⟩ = false ∧ W.frozen? ⟨g, 5, none⟩ = false ∧ W.frozen? ⟨g, 6, none⟩ = false ∧ W.frozen? ⟨g, 7, none⟩ = false ∧ W.frozen? ⟨g, 8, none⟩ = false ∧ W.frozen? ⟨g, 9, none⟩ = false ∧ W.frozen? ⟨g, 10, none⟩ = false ∧ W.frozen? ⟨g, 11, none⟩ = false) :=
  ⟨⟨h.cell rfl, h.cell rfl, h.cell rfl, h.cell rfl, h.cell rfl, h.cell rfl, h.cell rfl, h.cell rfl, h.cell rfl, h.cell rfl, h.cell rfl, h.cell rfl⟩, h.froz _, h.froz _, h.froz _, h.froz _, h.froz _, h.froz _, h.froz _, h.froz _, h.froz _, h.froz _, h.froz _, h.froz _⟩
set_option maxHeartbeats 2000000 in
set_option maxRecDepth 100000 in
theorem nstep_any (sa : Option Addr) (sc : Nat) (l : List SR) (wi : Int) (n : Nd) (lo ta : Bool) (w : World) (h : StsAt w sa l) (hT : TbE w) (hok : ∀ r ∈ l, r.s.ok) (hl : l.length ≤ 9223372036854775807) :
    Calls Tryz.prog 8 #[.agg #[.slice sa l.length sc, .int .i64 wi], .agg n.c, .bool lo, .bool ta] w fun e w' => e = .returned (.tuple #[.agg (nsS ⟨stgs l, wi⟩ n lo ta).c, .int .i64 (nkE ⟨stgs l, wi⟩ n)]) ∧ Kp [] w w' := by
  have B0 := SpB.new w #[.slice sa l.length sc, .int .i64 wi] n
  have CK := hide (ncheck_any sa sc l wi n _ (h.kp B0.k) (hT.kp B0.k (by simp)) hok hl)
  have ST : Hid (nkE ⟨stgs l, wi⟩ n = 0 → ∀ W, Kp [] w W → Calls Tryz.prog 26 #[.agg #[.slice sa l.length sc, .int .i64 wi], .agg n.c, .bool lo, .bool ta] W fun e w' => e = .returned (.agg (stpN (stgs l) n lo ta).c) ∧ Kp [] W w') := hide (fun h0 W hk => step_any sa sc l wi n lo ta W (h.kp hk) hl (nk_ok h0).2)
  have HS : Hid (nsS ⟨stgs l, wi⟩ n lo ta = if nkE ⟨stgs l, wi⟩ n = 0 then stpN (stgs l) n lo ta else zS) := hide rfl
  generalize nkE ⟨stgs l, wi⟩ n = R at *
  generalize nsS ⟨stgs l, wi⟩ n lo ta = Y at *
  generalize stpN (stgs l) n lo ta = X at *
  clear h hT hok hl
  generalize l.length = nn at *
  obtain ⟨⟨p0, p1⟩, c0, c1, c2⟩ := B0.cells
  have HB0 := hide B0
  obtain ⟨st, a, b⟩ := n
  clear B0
  unfold Nd.c zS zN Sps.c at CK HB0 p0 p1 c0 c1 c2
  unfold Nd.c at ST ⊢
  dsimp only at CK HB0 p0 p1 c0 c1 c2 ST ⊢
  go_enter Tryz.func8, Tryz.ntmps8
  go_wp2_with fail
  refine (unhide CK).mono ?_
  rintro e w1 ⟨rfl, hk1⟩
  have HB1 := hide ((unhide HB0).kp hk1)
  clear HB0 hk1 CK p0 p1 c0 c1 c2
  have hS := unhide HS
  clear HS
  by_cases hp : R = 0
  · subst hp
    rw [if_pos rfl] at hS
    subst hS
    obtain ⟨⟨p0, p1⟩, c0, c1, c2⟩ := (unhide HB1).cells
    have T := hide (unhide ST rfl w1 (unhide HB1).k)
    dsimp only at c0 c1 c2
    clear ST
    go_wp2_with fail
    refine (unhide T).mono ?_
    rintro e w2 ⟨rfl, hk2⟩
    have HB2 := hide ((unhide HB1).kp hk2)
    have br := (unhide HB2).r
    obtain ⟨⟨z0, z1, z2, z3, z4, z5, z6, z7, z8, z9, z10, z11⟩, f0, f1, f2, f3, f4, f5, f6, f7, f8, f9, f10, f11⟩ := zs_cells br
    obtain ⟨⟨l0, l1, l2⟩, ⟨t0, t1, t2⟩, ⟨v0, v1, v2⟩, cl, ct, cw⟩ := Y
    have HE := hide (put12 (show CBox (w.heap.size + 1 + 1) #[.int .i64 0, .bool false, .bool false, .int .i64 0, .bool false, .bool false, .int .i64 0, .bool false, .bool false, .bool false, .bool false, .bool false] 29 w2 from br) (.int .i64 l0) (.bool l1) (.bool l2) (.int .i64 t0) (.bool t1) (.bool t2) (.int .i64 v0) (.bool v1) (.bool v2) (.bool cl) (.bool ct) (.bool cw))
    have HG := hide (fun W (hk : Kp [w.heap.size + 1 + 1] w2 W) => (unhide HB2).k.trans hk (fun x hx => Or.inr (by simp only [List.mem_singleton] at hx; omega)))
    unfold Sps.c
    dsimp only
    clear T hk2 HB1 HB2 br p0 p1 c0 c1 c2
    go_wp2
    obtain ⟨hx, hy⟩ := unhide HE
    exact bodyPost_ret (results_row_tmp Tryz.results8 _ _ (w.heap.size + 1 + 1) 29 _ (0, 0) _ rfl hx Tryz.underlying29 rfl info_steps) rfl ⟨rfl, unhide HG _ hy⟩
  · rw [if_neg hp] at hS
    subst hS
    have g : (R != 0) = true := by simp [hp]
    have br := (unhide HB1).r
    obtain ⟨⟨z0, z1, z2, z3, z4, z5, z6, z7, z8, z9, z10, z11⟩, f0, f1, f2, f3, f4, f5, f6, f7, f8, f9, f10, f11⟩ := zs_cells br
    have HE := hide (put12 (show CBox (w.heap.size + 1 + 1) #[.int .i64 0, .bool false, .bool false, .int .i64 0, .bool false, .bool false, .int .i64 0, .bool false, .bool false, .bool false, .bool false, .bool false] 29 w1 from br) (.int .i64 0) (.bool false) (.bool false) (.int .i64 0) (.bool false) (.bool false) (.int .i64 0) (.bool false) (.bool false) (.bool false) (.bool false) (.bool false))
    have HG := hide (fun W (hk : Kp [w.heap.size + 1 + 1] w1 W) => (unhide HB1).k.trans hk (fun x hx => Or.inr (by simp only [List.mem_singleton] at hx; omega)))
    clear ST HB1 br hp
    go_wp2
    obtain ⟨hx, hy⟩ := unhide HE
    exact bodyPost_ret (results_row_tmp Tryz.results8 _ _ (w.heap.size + 1 + 1) 29 _ (0, 0) _ rfl hx Tryz.underlying29 rfl info_steps) rfl ⟨rfl, unhide HG _ hy⟩
end Go.Proofs.YtjijhefmbmdbeaaGreatDoor
namespace Go.Proofs.YtjijhefmbmdbeaaGreatDoor
open Go.RowKit Go.Shelf

end Go.Proofs.YtjijhefmbmdbeaaGreatDoor
namespace Go.Proofs.YtjijhefmbmdbeaaGreatDoor
open Go.RowKit Go.Shelf

def hwW (h : Int) : List UInt8 := if h = 0 then [115, 116, 97, 114, 116] else if h = 1 then [110, 101, 120, 116] else if h = 2 then [116, 104, 101, 110] else [97, 110, 121]
/-! Tokens put at a row's end. -/
def tkE (t : Tk) : List Value := [.int .i64 t.kd, .string t.s, .int .i64 t.n, .int .i64 t.pl]
theorem tkE_len (t : Tk) : (tkE t).length = 4 := rfl
theorem tkC_e (l : List Tk) : tkC l = l.flatMap tkE := rfl
theorem tkC_one (l : List Tk) : ∀ v ∈ tkC l, v.oneCell' = true := by
  intro v hv
  obtain ⟨r, _, h⟩ := List.mem_flatMap.1 hv
  simp only [List.mem_cons, List.not_mem_nil, or_false] at h
  rcases h with rfl | rfl | rfl | rfl <;> rfl
theorem tks_cells {w : World} {b off : Nat} {x : List Tk} (h : TksAt w (some ⟨b, off, none⟩) x) : ∀ j u, (tkC x)[j]? = some u → w.cell? ((⟨b, off, none⟩ : Addr).add j) = some u := by
  intro j u hj
  have hl := flat_len tkE 4 tkE_len x
  have hjl : j < x.length * 4 := by
    rw [← hl]
    exact (List.getElem?_eq_some_iff.1 hj).1
  have h4 := flat_at tkE 4 tkE_len x (j / 4) (j % 4) (by omega) (by omega)
  rw [show j / 4 * 4 + j % 4 = j by omega] at h4
  rw [tkC_e, h4] at hj
  obtain ⟨b', off', e, _, c0, c1, c2, c3⟩ := h.at (j / 4) (by omega)
  cases e
  have ea : (⟨b, off, none⟩ : Addr).add j = ⟨b, off + j / 4 * 4 + j % 4, none⟩ := by rw [Go.WideShapes.add_plain]; congr 1; omega
  rw [ea]
  rcases (show j % 4 = 0 ∨ j % 4 = 1 ∨ j % 4 = 2 ∨ j % 4 = 3 by omega) with e | e | e | e
  all_goals
    rw [e] at hj ⊢
    cases hj
    assumption
theorem OwnsK.app {B : Nat} {w : World} {v : Value} {l : List Tk} (ho : OwnsK B w v l) (hB : B ≤ w.heap.size) {b off c : Nat} {x : List Tk} (hx : TksAt w (some ⟨b, off, none⟩) x) (hm : 0 < x.length) (hl : l.length + x.length ≤ 1000000) (ty : TypeId) :
    ∃ g' cap w', (Builtin.append_ #[71, 71] ty #[v, .slice (some ⟨b, off, none⟩) x.length c]).run Tryz.prog w = .ok (.slice (some ⟨g', 0, none⟩) (l.length + x.length) cap) w' ∧ OwnsK B w' (.slice (some ⟨g', 0, none⟩) (l.length + x.length) cap) (l ++ x) ∧ Below B w w' := by
  obtain ⟨i0, hi, hz0, hz1, hz2⟩ := info_parts info_Tk
  obtain ⟨g', cap, w', hrun, r1, r2, _⟩ := run_append_lies (P := Tryz.prog) (w := w) 71 ty B 74 i0 (.agg #[.int .i64 0, .string ⟨#[]⟩, .int .i64 0, .int .i64 0]) 4 40 Tryz.underlying71 hi hz0 hz1 hz2 rfl (by decide) v l.length (tkC l) ho ⟨b, off, none⟩ x.length c (tkC x) (by rw [tkC_e]; exact flat_len tkE 4 tkE_len x) (tks_cells hx) (tkC_one x) hm (by unfold maxLen; omega) (by omega) hB _ rfl
  refine ⟨g', cap, w', hrun, ?_, (Kp.of r2).below hB (fun k hk => ?_)⟩
  · unfold OwnsK
    rw [List.length_append, tkC_append]
    exact r1
  · have : v.ownBlock = some k := by simpa using hk
    exact (World.ownsRow.lt ho k this).1
theorem OwnsK.kp {B : Nat} {w w' : World} {v : Value} {l : List Tk} (h : OwnsK B w v l) (hk : Kp [] w w') : OwnsK B w' v l := row_kp h hk (by simp)
theorem TksAt.front {w : World} {ad : Option Addr} {a b : List Tk} (h : TksAt w ad (a ++ b)) : TksAt w ad a := by
  have := h.take a.length
  rwa [List.take_left' rfl] at this
end Go.Proofs.YtjijhefmbmdbeaaGreatDoor
namespace Go.Proofs.YtjijhefmbmdbeaaGreatDoor
open Go.RowKit Go.Shelf

/-- What the package variables hold, the words of stages too. -/
structure TbP (w : World) : Prop where
  ex : TbE w
  fol : ∀ i, i < 4 → w.cell? ⟨1, i, none⟩ = some (.string (txt (hwW (i : Int))))
theorem TbP.same {w w' : World} (h : TbP w) (hs : w.heap.size ≤ w'.heap.size) (hb : ∀ k, k < 9 → w'.heap[k]? = w.heap[k]?) : TbP w' := by
  refine ⟨h.ex.same hs hb, fun i hi => ?_⟩
  rw [World.cell?_of_block (w := w') (w' := w) (a := ⟨1, i, none⟩) (hb 1 (by omega)).symm |>.symm]
  exact h.fol i hi
theorem TbP.low {w : World} (h : TbP w) : 9 ≤ w.heap.size := h.ex.low
theorem TbP.below {B : Nat} {w w' : World} (h : TbP w) (hb : Below B w w') (hB : 9 ≤ B) : TbP w' := h.same hb.size fun k hk => hb.block k (by omega)
theorem TbP.blw {w w' : World} (h : TbP w) (hb : Below w.heap.size w w') : TbP w' := h.below hb h.low
theorem TbP.kp {w w' : World} {F : List Nat} (h : TbP w) (hk : Kp F w w') (hF : ∀ k ∈ F, 9 ≤ k) : TbP w' := h.same hk.size fun k hk6 => hk.block k (by have := h.low; omega) (fun hm => by have := hF k hm; omega)
theorem OwnsK.two {B g : Nat} {w : World} {a b : Tk} (h : CBox g #[.int .i64 a.kd, .string a.s, .int .i64 a.n, .int .i64 a.pl, .int .i64 b.kd, .string b.s, .int .i64 b.n, .int .i64 b.pl] 74 w) (hg : B ≤ g) : OwnsK B w (.slice (some ⟨g, 0, none⟩) 2 2) [a, b] :=
  ⟨by simp [tkC], Or.inr ⟨g, 2, _, rfl, hg, h, Nat.le_refl _, by unfold maxLen; omega, rfl, by simp [tkC]⟩⟩
/-- What is kept while a stage's tokens are put together. -/
structure TkS (V W : World) (v : Value) (l : List Tk) : Prop where
  own : OwnsK V.heap.size W v l
  bel : Below V.heap.size V W
end Go.Proofs.YtjijhefmbmdbeaaGreatDoor
namespace Go.Proofs.YtjijhefmbmdbeaaGreatDoor
open Go.RowKit Go.Shelf

theorem bad1_none (l : List Stg) : ∀ (ah : List ByteArray) (i : Nat), bad1 l ah i = none → ∀ k (h : k < l.length), stOk l[k] (ah ++ nmsOf (l.take k)) = true := by
  induction l with
  | nil => intro ah i _ k h; simp at h
  | cons s r ih =>
    intro ah i hb k h
    rw [bad1] at hb
    split at hb
    · rename_i hs
      cases k with
      | zero => simpa [nmsOf] using hs
      | succ k =>
        have := ih (ah ++ [s.nm]) (i + 1) hb k (by simpa using h)
        simpa [nmsOf] using this
    · cases hb
/-- What may be of a pattern that Check does not refuse. -/
theorem pc_ok {p : Ptn} (h : (pcR p).2 = 0) : 1 ≤ p.ss.length ∧ p.ss.length ≤ 8 ∧ (1 ≤ p.wi ∧ p.wi ≤ 256) ∧ ∀ k (hk : k < p.ss.length), stOk p.ss[k] (nmsOf (p.ss.take k)) = true := by
  unfold pcR at h
  split at h
  · simp at h
  · rename_i hn
    split at h
    · simp at h
    · rename_i hb
      split at h
      · rename_i hw
        unfold wiOk at hw
        simp at hw
        refine ⟨by omega, by omega, hw, fun k hk => ?_⟩
        have := bad1_none p.ss [] 0 hb k hk
        simpa using this
      · simp at h
end Go.Proofs.YtjijhefmbmdbeaaGreatDoor
namespace Go.Proofs.YtjijhefmbmdbeaaGreatDoor
open Go.RowKit Go.Shelf

theorem rdP_ok (s : ByteArray) : (∀ g ∈ (rdP s).p.ss, g.ok) ∧ (rdP s).p.ss.length ≤ 9 ∧ -9223372036854775808 ≤ (rdP s).p.wi ∧ (rdP s).p.wi ≤ 257 := by
  have hn : (∀ g ∈ noP.ss, g.ok) ∧ noP.ss.length ≤ 9 ∧ -9223372036854775808 ≤ noP.wi ∧ noP.wi ≤ 257 := ⟨by simp [noP], by simp [noP], by simp [noP], by simp [noP]⟩
  unfold rdP
  have htk := tsL_ok s
  cases h : tsR s with
  | bad p q => exact hn
  | good ts =>
    rw [h] at htk
    dsimp only
    rw [rdPG_eq]
    have hok : ∀ t ∈ ts ++ [endZ s.size], t.ok := htk
    cases hp : ptR 9 [] (ts ++ [endZ s.size]) with
    | bad a c => exact hn
    | good p =>
      unfold poR
      dsimp only
      split
      · obtain ⟨h1, h2, h3, h4⟩ := ptR_fits 9 [] _ p (by simp) hok hp
        exact ⟨h1, by simpa using h4, h2, h3⟩
      · exact hn
/-- Read, with where it lies. -/
theorem pread_at (s : ByteArray) (hs : s.size ≤ 9223372036854775807) (W : World) (hW : TbE W) : Calls Tryz.prog 34 #[.string s] W fun e w' => ∃ ad cp rs, e = .returned (.tuple #[.agg #[.slice ad (rs : List SR).length cp, .int .i64 (rdP s).p.wi], .agg #[.int .i64 (rdP s).at_, .int .i64 (rdP s).c]]) ∧ StsAt w' ad rs ∧ stgs rs = (rdP s).p.ss ∧ (∀ r ∈ rs, r.s.ok) ∧ Below W.heap.size W w' :=
  (pread_any s W hW hs).mono fun e w' ⟨⟨ad, cp, rs, h1, h2, h3⟩, h4⟩ => by
    obtain ⟨a', c', e', hat, _⟩ := h2.at
    injection e' with ea eb ec
    refine ⟨ad, cp, rs, h1, by rw [ea]; exact hat, h3, fun r hr => (rdP_ok s).1 r.s (by rw [← h3]; unfold stgs; exact List.mem_map_of_mem hr), h4⟩
end Go.Proofs.YtjijhefmbmdbeaaGreatDoor
