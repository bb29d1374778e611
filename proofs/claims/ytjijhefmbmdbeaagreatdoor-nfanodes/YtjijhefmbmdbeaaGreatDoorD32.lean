/-
  The small functions of nfa: is a number a stage's, may a node be, is it dead, does a road stay open.
  passed and step: where a match on its way stands behind an event.
-/
import Derived.Test.YtjijhefmbmdbeaaGreatDoorD23
import Derived.Test.YtjijhefmbmdbeaaGreatDoorD24
import Derived.Test.YtjijhefmbmdbeaaGreatDoorD31
import Derived.Deep.DeepCutAuto
namespace Go.Proofs.YtjijhefmbmdbeaaGreatDoor
open Go.RowKit Go.Shelf

theorem nisStage_any (sa : Option Addr) (sc n : Nat) (wi : Int) (l : List Stg) (hn : l.length = n) (s : Int) (w : World) :
    Calls Tryz.prog 28 #[.agg #[.slice sa n sc, .int .i64 wi], .int .i64 s] w fun e w' => e = .returned (.bool (isS l s)) ∧ Kp [] w w' := by
  have hb := CBox.new w #[.slice sa n sc, .int .i64 wi] 24
  have p0 := hb.cell (i := 0) (v := .slice sa n sc) rfl
  have hk := hide (Kp.alloc w (.cells #[.slice sa n sc, .int .i64 wi] 24))
  have hR : isS l s = (decide (1 ≤ s) && decide (s ≤ (n : Int))) := by unfold isS; rw [hn]
  rw [hR]
  clear hb hn hR
  by_cases h1 : 1 ≤ s
  · have g1 : (1 ≤ s) = True := by simp [h1]
    have e : (decide (1 ≤ s) && decide (s ≤ (n : Int))) = decide (s ≤ (n : Int)) := by simp [h1]
    rw [e]
    clear h1 e
    go_enter Tryz.func28, Tryz.ntmps28
    go_wp2
    go_ret
    exact ⟨rfl, unhide hk⟩
  · have g1 : (1 ≤ s) = False := by simp [h1]
    have e : (decide (1 ≤ s) && decide (s ≤ (n : Int))) = false := by simp [h1]
    rw [e]
    clear h1 e
    go_enter Tryz.func28, Tryz.ntmps28
    go_wp2
    go_ret
    exact ⟨rfl, unhide hk⟩
theorem staysOpen_any (h : Int) (b : Bool) (w : World) : Calls Tryz.prog 73 #[.int .i64 h, .bool b] w fun e w' => e = .returned (.bool (stay h b)) ∧ Kp [] w w' := by
  by_cases h3 : h = 3
  · subst h3
    have e : stay 3 b = true := rfl
    rw [e]
    go_enter Tryz.func73, Tryz.ntmps73
    go_wp2
    go_ret
    exact ⟨rfl, Kp.refl _ _⟩
  · by_cases h2 : h = 2
    · subst h2
      have e : stay 2 b = !b := rfl
      rw [e]
      clear h3
      go_enter Tryz.func73, Tryz.ntmps73
      go_wp2
      go_ret
      exact ⟨rfl, Kp.refl _ _⟩
    · have e : stay h b = false := by unfold stay; simp [h2, h3]
      rw [e]
      have g3 : (h == 3) = false := by simp [h3]
      have g2 : (h == 2) = false := by simp [h2]
      clear h2 h3 e
      go_enter Tryz.func73, Tryz.ntmps73
      go_wp2
      go_ret
      exact ⟨rfl, Kp.refl _ _⟩
theorem dead_is (n : Nd) : ndE n ⟨n.st, false, false⟩ = !n.live := by
  obtain ⟨s, a, b⟩ := n
  unfold ndE Nd.live
  cases a <;> cases b <;> simp
theorem isDead_any (n : Nd) (w : World) : Calls Tryz.prog 47 #[.agg n.c] w fun e w' => e = .returned (.bool (!n.live)) ∧ Kp [] w w' := by
  have q := fun W => eqN 9998 n ⟨n.st, false, false⟩ W
  rw [dead_is] at q
  have hb := CBox.new w n.c 26
  have hk := hide (Kp.alloc w (.cells n.c 26))
  generalize (!n.live) = L at *
  obtain ⟨s, a, b⟩ := n
  unfold Nd.c at *
  dsimp only at *
  have c0 := hb.cell (i := 0) (v := .int .i64 s) rfl
  have c1 := hb.cell (i := 1) (v := .bool a) rfl
  have c2 := hb.cell (i := 2) (v := .bool b) rfl
  clear hb
  go_enter Tryz.func47, Tryz.ntmps47
  go_wp2
  go_ret
  exact ⟨rfl, unhide hk⟩
set_option maxHeartbeats 2000000 in
set_option maxRecDepth 100000 in
theorem mayBe_any (sa : Option Addr) (sc : Nat) (l : List SR) (wi : Int) (n : Nd) (w : World) (h : StsAt w sa l) (hl : l.length ≤ 9223372036854775807) :
    Calls Tryz.prog 32 #[.agg #[.slice sa l.length sc, .int .i64 wi], .agg n.c] w fun e w' => e = .returned (.bool (mayN (stgs l) n)) ∧ Kp [] w w' := by
  have k0 : Kp [] w ((w.alloc (.cells #[.slice sa l.length sc, .int .i64 wi] 24)).alloc (.cells n.c 26)) := (Kp.alloc _ _).trans (Kp.alloc _ _) (by simp)
  have hP := rp_b0 w #[.slice sa l.length sc, .int .i64 wi] 24 (.cells n.c 26)
  have hN := rp_b1 w n.c 26 (.cells #[.slice sa l.length sc, .int .i64 wi] 24)
  have hsz : ((w.alloc (.cells #[.slice sa l.length sc, .int .i64 wi] 24)).alloc (.cells n.c 26)).heap.size = w.heap.size + 2 := by simp
  have IS := hide (fun W => nisStage_any sa sc l.length wi (stgs l) (stgs_len l) n.st W)
  have TK : Hid (isS (stgs l) n.st = true → ∀ W, Kp [] w W → Calls Tryz.prog 29 #[.agg #[.slice sa l.length sc, .int .i64 wi], .int .i64 n.st] W fun e w' => e = .returned (.agg (bgN (stgs l) n.st.toNat).c) ∧ Kp [] W w') := hide (fun hs W hk => by
    obtain ⟨g1, g2⟩ := isS_iff.1 hs
    rw [stgs_len] at g2
    have := taken_any sa sc l wi n.st.toNat W (h.kp hk) hl (by omega) (by omega)
    rwa [show ((n.st.toNat : Nat) : Int) = n.st by omega] at this)
  have HM : Hid (mayN (stgs l) n = (isS (stgs l) n.st && (((bgN (stgs l) n.st.toNat).lp || !n.lp) && ((bgN (stgs l) n.st.toNat).tk || !n.tk)))) := hide rfl
  have HV : Hid (∀ W, Kp [] ((w.alloc (.cells #[.slice sa l.length sc, .int .i64 wi] 24)).alloc (.cells n.c 26)) W → (W.cell? ⟨w.heap.size, 0, none⟩ = some (.slice sa l.length sc) ∧ W.cell? ⟨w.heap.size, 1, none⟩ = some (.int .i64 wi) ∧ W.cell? ⟨w.heap.size + 1, 0, none⟩ = some (.int .i64 n.st) ∧ W.cell? ⟨w.heap.size + 1, 1, none⟩ = some (.bool n.lp) ∧ W.cell? ⟨w.heap.size + 1, 2, none⟩ = some (.bool n.tk)) ∧ Hid (Kp [] w W) ∧ w.heap.size + 1 < W.heap.size) := hide (fun W hk => ⟨⟨(hP.kp hk (by simp)).cell rfl, (hP.kp hk (by simp)).cell rfl, (hN.kp hk (by simp)).cell rfl, (hN.kp hk (by simp)).cell rfl, (hN.kp hk (by simp)).cell rfl⟩, hide (k0.trans hk (by simp)), by have := hk.size; omega⟩)
  clear k0 hP hN hsz h hl
  generalize bgN (stgs l) n.st.toNat = M at *
  generalize mayN (stgs l) n = R at *
  generalize isS (stgs l) n.st = I at *
  generalize l.length = nn at *
  obtain ⟨s, a, b⟩ := n
  obtain ⟨ms, ma, mb⟩ := M
  unfold Nd.c at *
  dsimp only at *
  obtain ⟨⟨c0, c1, c2, c3, c4⟩, _, hlt⟩ := unhide HV _ (Kp.refl _ _)
  go_enter Tryz.func32, Tryz.ntmps32
  go_wp2_with fail
  refine (unhide IS _).mono ?_
  rintro e w1 ⟨rfl, hk1⟩
  have HK1 := hide hk1
  obtain ⟨⟨d0, d1, d2, d3, d4⟩, HW1, hlt1⟩ := unhide HV _ hk1
  clear c0 c1 c2 c3 c4 hlt hk1 IS
  cases I with
  | false =>
    have hR := unhide HM
    rw [Bool.false_and] at hR
    subst hR
    clear TK HM
    go_wp2
    go_ret
    exact ⟨rfl, unhide HW1⟩
  | true =>
    have T1 := hide (unhide TK rfl w1 (unhide HW1))
    clear TK
    go_wp2_with fail
    refine (unhide T1).mono ?_
    rintro e w2 ⟨rfl, hk2⟩
    have HR := unhide HM
    rw [Bool.true_and] at HR
    obtain ⟨⟨e0, e1, e2, e3, e4⟩, HW2, hlt2⟩ := unhide HV _ ((unhide HK1).trans hk2 (by simp))
    have hbx := CBox.new w2 #[.int .i64 ms, .bool ma, .bool mb] 26
    have q1 := hbx.cell (i := 1) (v := .bool ma) rfl
    have q2 := hbx.cell (i := 2) (v := .bool mb) rfl
    have HF := hide ((unhide HW2).trans (Kp.alloc w2 (.cells #[.int .i64 ms, .bool ma, .bool mb] 26)) (by simp))
    subst HR
    clear T1 hk2 HM d0 d1 d2 d3 d4 hbx HV HK1 HW1 HW2
    cases ma <;> cases a <;> cases mb <;> cases b <;> (go_wp2; go_ret; exact ⟨rfl, unhide HF⟩)
end Go.Proofs.YtjijhefmbmdbeaaGreatDoor
namespace Go.Proofs.YtjijhefmbmdbeaaGreatDoor
open Go.RowKit Go.Shelf

/-- A pattern's box, a node's, and one for what is given back. -/
structure PsB (w W : World) (pc : Array Value) (n r : Nd) : Prop where
  p : CBox w.heap.size pc 24 W
  n : CBox (w.heap.size + 1) n.c 26 W
  r : CBox (w.heap.size + 1 + 1) r.c 26 W
  k : Kp [] w W
theorem PsB.new (w : World) (pc : Array Value) (n : Nd) : PsB w (((w.alloc (.cells pc 24)).alloc (.cells n.c 26)).alloc (.cells zN.c 26)) pc n zN := by
  refine ⟨?_, ?_, ?_, ((Kp.alloc _ _).trans (Kp.alloc _ _) (by simp)).trans (Kp.alloc _ _) (by simp)⟩
  · exact ((CBox.new w _ _).kp (Kp.alloc _ _) (by simp)).kp (Kp.alloc _ _) (by simp)
  · have := (CBox.new (w.alloc (.cells pc 24)) n.c 26).kp (Kp.alloc _ (.cells zN.c 26)) (by simp)
    rwa [show (w.alloc (.cells pc 24)).heap.size = w.heap.size + 1 by simp] at this
  · have := CBox.new ((w.alloc (.cells pc 24)).alloc (.cells n.c 26)) zN.c 26
    rwa [show ((w.alloc (.cells pc 24)).alloc (.cells n.c 26)).heap.size = w.heap.size + 1 + 1 by simp] at this
theorem PsB.kp {w W W' : World} {pc : Array Value} {n r : Nd} (h : PsB w W pc n r) (hk : Kp [] W W') : PsB w W' pc n r :=
  ⟨h.p.kp hk (by simp), h.n.kp hk (by simp), h.r.kp hk (by simp), h.k.trans hk (by simp)⟩
theorem PsB.cells {w W : World} {pc : Array Value} {n r : Nd} (h : PsB w W pc n r) : W.cell? ⟨w.heap.size + 1, 0, none⟩ = some (.int .i64 n.st) ∧ W.cell? ⟨w.heap.size + 1, 1, none⟩ = some (.bool n.lp) ∧ W.cell? ⟨w.heap.size + 1, 2, none⟩ = some (.bool n.tk) ∧ W.cell? ⟨w.heap.size + 1 + 1, 0, none⟩ = some (.int .i64 r.st) ∧ W.cell? ⟨w.heap.size + 1 + 1, 1, none⟩ = some (.bool r.lp) ∧ W.cell? ⟨w.heap.size + 1 + 1, 2, none⟩ = some (.bool r.tk) :=
  ⟨h.n.cell rfl, h.n.cell rfl, h.n.cell rfl, h.r.cell rfl, h.r.cell rfl, h.r.cell rfl⟩
theorem PsB.froz {w W : World} {pc : Array Value} {n r : Nd} (h : PsB w W pc n r) : W.frozen? ⟨w.heap.size + 1, 1, none⟩ = false ∧ W.frozen? ⟨w.heap.size + 1, 2, none⟩ = false ∧ W.frozen? ⟨w.heap.size + 1 + 1, 0, none⟩ = false ∧ W.frozen? ⟨w.heap.size + 1 + 1, 1, none⟩ = false ∧ W.frozen? ⟨w.heap.size + 1 + 1, 2, none⟩ = false :=
  ⟨h.n.froz _, h.n.froz _, h.r.froz _, h.r.froz _, h.r.froz _⟩
theorem PsB.loop {w W : World} {pc : Array Value} {n r : Nd} (h : PsB w W pc n r) (x : Bool) : PsB w (W.setCell ⟨w.heap.size + 1, 1, none⟩ (.bool x)) pc ⟨n.st, x, n.tk⟩ r :=
  ⟨h.p.kp (Kp.set _ _ _ _) (by simp), h.n.set 1 (.bool x), h.r.kp (Kp.set _ _ _ _) (by simp), h.k.trans (Kp.set _ _ _ _) (by simp)⟩
theorem PsB.take {w W : World} {pc : Array Value} {n r : Nd} (h : PsB w W pc n r) (x : Bool) : PsB w (W.setCell ⟨w.heap.size + 1, 2, none⟩ (.bool x)) pc ⟨n.st, n.lp, x⟩ r :=
  ⟨h.p.kp (Kp.set _ _ _ _) (by simp), h.n.set 2 (.bool x), h.r.kp (Kp.set _ _ _ _) (by simp), h.k.trans (Kp.set _ _ _ _) (by simp)⟩
theorem PsB.out {w W : World} {pc : Array Value} {n r : Nd} (h : PsB w W pc n r) : CBox (w.heap.size + 1 + 1) n.c 26 (((W.setCell ⟨w.heap.size + 1 + 1, 0, none⟩ (.int .i64 n.st)).setCell ⟨w.heap.size + 1 + 1, 1, none⟩ (.bool n.lp)).setCell ⟨w.heap.size + 1 + 1, 2, none⟩ (.bool n.tk)) ∧ Kp [] w (((W.setCell ⟨w.heap.size + 1 + 1, 0, none⟩ (.int .i64 n.st)).setCell ⟨w.heap.size + 1 + 1, 1, none⟩ (.bool n.lp)).setCell ⟨w.heap.size + 1 + 1, 2, none⟩ (.bool n.tk)) :=
  nb_end h.k (by omega) h.r _ _ _
set_option maxHeartbeats 2000000 in
set_option maxRecDepth 100000 in
theorem passed_any (sa : Option Addr) (sc : Nat) (l : List SR) (wi : Int) (n : Nd) (lo ta : Bool) (w : World) (h : StsAt w sa l) (hl : l.length ≤ 9223372036854775807) (hm : mayN (stgs l) n = true) :
    Calls Tryz.prog 46 #[.agg #[.slice sa l.length sc, .int .i64 wi], .agg n.c, .bool lo, .bool ta] w fun e w' => e = .returned (.agg (psN (stgs l) n lo ta).c) ∧ Kp [] w w' := by
  obtain ⟨m1, m2, m3⟩ := may_split hm
  obtain ⟨g1, g2⟩ := isS_iff.1 m1
  rw [stgs_len] at g2 m3
  obtain ⟨k, hk⟩ : ∃ k : Nat, n.st = (k : Int) + 1 := ⟨n.st.toNat - 1, by omega⟩
  have hkl : k < l.length := by omega
  obtain ⟨b, off, rfl, hbl, -, x1, -, -, -⟩ := h.at k hkl
  have hw1 : hwAt (stgs l) (n.st.toNat - 1) = l[k].s.hw := by rw [hwAt_get (by rw [stgs_len]; omega)]; have := stgs_at hkl; simp only [show n.st.toNat - 1 = k by omega, this]
  have X2 : Hid (n.tk = true → ∃ hk1 : k + 1 < l.length, (∀ W, Kp [] w W → W.cell? ⟨b, off + (k + 1) * 4 + 1, none⟩ = some (.int .i64 (l[k + 1]'hk1).s.hw)) ∧ hwAt (stgs l) n.st.toNat = (l[k + 1]'hk1).s.hw) := hide (fun e => by
    have hk1 : k + 1 < l.length := by have := m3 e; omega
    obtain ⟨b', off', e', -, -, y1, -, -, -⟩ := h.at (k + 1) hk1
    injection e' with e'
    injection e' with e1 e2
    subst e1 e2
    refine ⟨hk1, fun W hW => hW.cell y1 (by simp), ?_⟩
    rw [hwAt_get (by rw [stgs_len]; omega)]
    have := stgs_at hk1
    simp only [show n.st.toNat = k + 1 by omega, this])
  have B0 := PsB.new w #[.slice (some ⟨b, off, none⟩) l.length sc, .int .i64 wi] n
  have HP : Hid (∀ W, Kp [] w W → W.cell? ⟨b, off + k * 4 + 1, none⟩ = some (.int .i64 l[k].s.hw)) := hide (fun W hW => hW.cell x1 (by simp))
  have SO := hide (fun x y W => staysOpen_any x y W)
  have hsub : IntKind.i64.wrap ((k : Int) + 1 - 1) = (k : Int) := by simp only [IntKind.wrap_i64]; omega
  have hli : (k : Int) < (l.length : Int) := by omega
  have HTK : Hid (n.tk = true → k + 1 < l.length) := hide (fun e => by have := m3 e; omega)
  unfold psN
  rw [hw1]
  obtain ⟨st, a, bb⟩ := n
  dsimp only at hk
  subst hk
  dsimp only at X2 HTK hw1 ⊢
  generalize l[k].s.hw = H1 at *
  generalize hwAt (stgs l) ((k : Int) + 1).toNat = H2 at *
  clear h hm m1 m2 m3 g1 x1 hw1
  have p0 := B0.p.cell (i := 0) (v := .slice (some ⟨b, off, none⟩) l.length sc) rfl
  obtain ⟨c0, c1, c2, c3, c4, c5⟩ := B0.cells
  have HB0 := hide B0
  dsimp only at c0 c1 c2
  clear B0
  unfold Nd.c zN at HB0 c0 c1 c2 c3 c4 c5
  unfold Nd.c zN at p0
  unfold Nd.c
  dsimp only at HB0 c0 c1 c2 c3 c4 c5 p0 ⊢
  go_enter Tryz.func46, Tryz.ntmps46
  go_upto_if 10 with fail
  go_cut [] (fun wc => Hid (PsB w wc #[.slice (some ⟨b, off, none⟩) l.length sc, .int .i64 wi] ⟨(k : Int) + 1, a && stay H1 lo, bb⟩ zN))
  case first =>
    cases a with
    | true =>
      have q := unhide HP _ (unhide HB0).k
      have hbl2 := Nat.lt_of_lt_of_le hbl (unhide HB0).k.size
      have SO1 := hide (unhide SO H1 lo)
      clear SO HTK X2 HP c3 c4 c5
      go_wp2_with fail
      refine (unhide SO1 _).mono ?_
      rintro e w1 ⟨rfl, hk1⟩
      have B1 := (unhide HB0).kp hk1
      obtain ⟨d0, d1, d2, d3, d4, d5⟩ := B1.cells
      obtain ⟨f1, f2, f3, f4, f5⟩ := B1.froz
      have B2 := hide (B1.loop (stay H1 lo))
      clear B1 hk1 HB0 SO1 c0 c1 c2 p0 q
      dsimp only at d0 d1 d2
      go_wp2
      go_meet
      exact B2
    | false =>
      clear SO HTK X2 HP c3 c4 c5
      go_wp2
      go_meet
      exact HB0
  case rest =>
    have HB1 := hcut
    have p1 := (unhide HB1).p.cell (i := 0) (v := .slice (some ⟨b, off, none⟩) l.length sc) rfl
    obtain ⟨d0, d1, d2, d3, d4, d5⟩ := (unhide HB1).cells
    dsimp only at d0 d1 d2
    obtain ⟨A, hA⟩ : ∃ A, (a && stay H1 lo) = A := ⟨_, rfl⟩
    rw [hA] at HB1 d1
    have HA := hide hA
    clear hA
    clear HB0 c0 c1 c2 c3 c4 c5 p0 hcut HP hsub hli
    go_upto_if 23 with fail
    go_cut [] (fun wc => Hid (PsB w wc #[.slice (some ⟨b, off, none⟩) l.length sc, .int .i64 wi] ⟨(k : Int) + 1, A, bb && stay H2 ta⟩ zN))
    case first =>
      cases bb with
      | true =>
        obtain ⟨hk1, q0, qe⟩ := unhide X2 rfl
        have q := q0 _ (unhide HB1).k
        rw [← qe] at q
        have hli : ((k : Int) + 1) < (l.length : Int) := by omega
        have hbl2 := Nat.lt_of_lt_of_le hbl (unhide HB1).k.size
        have SO1 := hide (unhide SO H2 ta)
        clear SO HTK X2 d3 d4 d5 q0 qe
        go_wp2_with fail
        refine (unhide SO1 _).mono ?_
        rintro e w1 ⟨rfl, hk1⟩
        have B1 := (unhide HB1).kp hk1
        obtain ⟨e0, e1, e2, e3, e4, e5⟩ := B1.cells
        obtain ⟨f1, f2, f3, f4, f5⟩ := B1.froz
        have B2 := hide (B1.take (stay H2 ta))
        clear B1 hk1 HB1 SO1 d0 d1 d2 p1 q
        dsimp only at e0 e1 e2
        go_wp2
        go_meet
        exact B2
      | false =>
        clear SO HTK X2 d3 d4 d5
        go_wp2
        go_meet
        exact HB1
    case rest =>
      have HB2 := hcut
      obtain ⟨e0, e1, e2, e3, e4, e5⟩ := (unhide HB2).cells
      obtain ⟨f1, f2, f3, f4, f5⟩ := (unhide HB2).froz
      dsimp only at e0 e1 e2
      have HO := hide (unhide HB2).out
      dsimp only at HO
      obtain ⟨BB, hBB⟩ : ∃ BB, (bb && stay H2 ta) = BB := ⟨_, rfl⟩
      rw [hBB] at e2 HO HB2
      have HBB := hide hBB
      clear hBB
      clear HB1 d0 d1 d2 d3 d4 d5 p1 hcut SO HTK X2
      go_wp2
      obtain ⟨hx, hy⟩ := unhide HO
      exact bodyPost_ret (results_cell_row Tryz.results46 _ _ (w.heap.size + 1 + 1) 26 _ (0, 0) _ rfl hx Tryz.underlying26 rfl info_node) rfl ⟨by rw [unhide HA, unhide HBB]; rfl, hy⟩
end Go.Proofs.YtjijhefmbmdbeaaGreatDoor
