/-
  works of nodes: the chapter's example.
  A slice of numbers: they lie where it says.
  NfaShuts: along any events that are not taken a road that is shut opens no more.
-/
import Derived.Test.YtjijhefmbmdbeaaGreatDoorD34
import Derived.Test.YtjijhefmbmdbeaaGreatDoorChecked
import Derived.Test.YtjijhefmbmdbeaaGreatDoorD01
import Derived.WalkLawsBesides
namespace Go.Proofs.YtjijhefmbmdbeaaGreatDoor
open Go.RowKit Go.Shelf

def spE (a b : Sps) : Bool := ndE a.lp b.lp && (ndE a.tk b.tk && (ndE a.wt b.wt && (a.cl == b.cl && (a.ct == b.ct && a.cw == b.cw))))
theorem spE_self (a : Sps) : spE a a = true := by unfold spE; simp [ndE_self]
/-- Two steps held against one another. -/
theorem eqS (d : Nat) (a b : Sps) (w : World) : (Op.equalIn (d + 3) 29 (.agg a.c) (.agg b.c)).run Tryz.prog w = .ok (spE a b) w := by
  have hn := fun (a b : Nd) (w : World) => eqN d a b w
  obtain ⟨a0, a1, a2, a3, a4, a5⟩ := a
  obtain ⟨b0, b1, b2, b3, b4, b5⟩ := b
  have hb := fun (a b : Bool) (w : World) => run_equalIn_bool (P := Tryz.prog) w (d + 1) 4 a b Tryz.underlying4
  have h0 := fun w => hn a0 b0 w
  have h1 := fun w => hn a1 b1 w
  have h2 := fun w => hn a2 b2 w
  unfold Op.equalIn Sps.c spE
  unfold Nd.c at h0 h1 h2
  simp only [Sem.run_bind, run_underlying Tryz.underlying29, Result.andThen_ok]
  generalize ndE a0 b0 = e0 at *
  generalize ndE a1 b1 = e1 at *
  generalize ndE a2 b2 = e2 at *
  simp [part, Tryz.sizeOf26, Tryz.sizeOf4, go_sem, h0, h1, h2, hb]
  cases e0 <;> cases e1 <;> cases e2 <;> cases a3 <;> cases b3 <;> cases a4 <;> cases b4 <;> cases a5 <;> cases b5 <;> simp
def exN : Ptn := ⟨[⟨⟨#[97]⟩, 0, true, [⟨7, 0, ⟨#[]⟩, ⟨#[]⟩, 0⟩, ⟨3, 0, ⟨#[]⟩, ⟨#[]⟩, 0⟩, ⟨1, 1, ⟨#[]⟩, ⟨#[]⟩, 0⟩]⟩, ⟨⟨#[98]⟩, 2, false, [⟨9, 0, ⟨#[]⟩, ⟨#[]⟩, 0⟩, ⟨3, 0, ⟨#[]⟩, ⟨#[]⟩, 0⟩, ⟨1, 1, ⟨#[]⟩, ⟨#[]⟩, 0⟩]⟩], 5⟩
theorem exN_read : rdP ⟨#[115, 116, 97, 114, 116, 32, 97, 43, 58, 32, 110, 48, 32, 60, 32, 49, 59, 32, 116, 104, 101, 110, 32, 98, 58, 32, 110, 48, 32, 61, 61, 32, 49, 59, 32, 119, 105, 116, 104, 105, 110, 32, 53]⟩ = ⟨exN, 0, 0⟩ := by kernel_rfl
theorem exN_begun : nbE exN 1 = 0 ∧ nbN exN 1 = ⟨1, true, true⟩ := ⟨by kernel_rfl, by kernel_rfl⟩
theorem exN_one : nkE exN ⟨1, true, true⟩ = 0 ∧ nsS exN ⟨1, true, true⟩ false false = ⟨zN, zN, ⟨1, false, true⟩, false, false, true⟩ := ⟨by kernel_rfl, by kernel_rfl⟩
theorem exN_two : nsS exN ⟨1, true, true⟩ false true = ⟨zN, ⟨2, false, false⟩, zN, false, true, false⟩ := by kernel_rfl
theorem st12_cells {g : Nat} {s : Sps} {W : World} (h : CBox g s.c 29 W) : W.cell? ⟨g, 0, none⟩ = some (.int .i64 s.lp.st) ∧ W.cell? ⟨g, 1, none⟩ = some (.bool s.lp.lp) ∧ W.cell? ⟨g, 2, none⟩ = some (.bool s.lp.tk) ∧ W.cell? ⟨g, 3, none⟩ = some (.int .i64 s.tk.st) ∧ W.cell? ⟨g, 4, none⟩ = some (.bool s.tk.lp) ∧ W.cell? ⟨g, 5, none⟩ = some (.bool s.tk.tk) ∧ W.cell? ⟨g, 6, none⟩ = some (.int .i64 s.wt.st) ∧ W.cell? ⟨g, 7, none⟩ = some (.bool s.wt.lp) ∧ W.cell? ⟨g, 8, none⟩ = some (.bool s.wt.tk) ∧ W.cell? ⟨g, 9, none⟩ = some (.bool s.cl) ∧ W.cell? ⟨g, 10, none⟩ = some (.bool s.ct) ∧ W.cell? ⟨g, 11, none⟩ = some (.bool s.cw) :=
  ⟨h.cell rfl, h.cell rfl, h.cell rfl, h.cell rfl, h.cell rfl, h.cell rfl, h.cell rfl, h.cell rfl, h.cell rfl, h.cell rfl, h.cell rfl, h.cell rfl⟩
set_option maxHeartbeats 4000000 in
set_option maxRecDepth 100000 in
theorem nworks_any (w : World) (hT : TbE w) : Calls Tryz.prog 17 #[] w fun e w' => e = .returned (.bool true) ∧ Kp [] w w' := by
  have R1 := pread_at ⟨#[115, 116, 97, 114, 116, 32, 97, 43, 58, 32, 110, 48, 32, 60, 32, 49, 59, 32, 116, 104, 101, 110, 32, 98, 58, 32, 110, 48, 32, 61, 61, 32, 49, 59, 32, 119, 105, 116, 104, 105, 110, 32, 53]⟩ (by decide) w hT
  rw [exN_read] at R1
  dsimp only at R1
  have HR1 : Hid (Calls Tryz.prog 34 #[.string ⟨#[115, 116, 97, 114, 116, 32, 97, 43, 58, 32, 110, 48, 32, 60, 32, 49, 59, 32, 116, 104, 101, 110, 32, 98, 58, 32, 110, 48, 32, 61, 61, 32, 49, 59, 32, 119, 105, 116, 104, 105, 110, 32, 53]⟩] w fun e w' => ∃ ad cp rs, e = .returned (.tuple #[.agg #[.slice ad 2 cp, .int .i64 5], .agg #[.int .i64 0, .int .i64 0]]) ∧ StsAt w' ad (rs : List SR) ∧ stgs rs = exN.ss ∧ rs.length = 2 ∧ (∀ r ∈ rs, r.s.ok) ∧ Kp [] w w') := hide (R1.mono fun e w' ⟨ad, cp, rs, h1, h2, h3, h4, h5⟩ => by
    have hl : rs.length = 2 := by rw [← stgs_len, h3]; rfl
    rw [hl] at h1
    exact ⟨ad, cp, rs, h1, h2, h3, hl, h4, Kp.ofBelow h5⟩)
  have HBG : Hid (∀ ad cp (rs : List SR) W, StsAt W ad rs → stgs rs = exN.ss → rs.length = 2 → (∀ r ∈ rs, r.s.ok) → TbE W → Calls Tryz.prog 12 #[.agg #[.slice ad 2 cp, .int .i64 5], .int .i64 1] W fun e w' => e = .returned (.tuple #[.agg #[.int .i64 1, .bool true, .bool true], .int .i64 0]) ∧ Kp [] W w') := hide (fun ad cp rs W h1 h2 h3 h4 h5 => by
    have := nbegun_any ad cp rs 5 1 W h1 h5 h4 (by omega)
    have he : (⟨stgs rs, 5⟩ : Ptn) = exN := by rw [h2]; rfl
    rw [he, exN_begun.1, exN_begun.2, h3] at this
    exact this)
  have HST : Hid (∀ (b : Bool) (Y : Sps), nsS exN ⟨1, true, true⟩ false b = Y → ∀ ad cp (rs : List SR) W, StsAt W ad rs → stgs rs = exN.ss → rs.length = 2 → (∀ r ∈ rs, r.s.ok) → TbE W → Calls Tryz.prog 8 #[.agg #[.slice ad 2 cp, .int .i64 5], .agg #[.int .i64 1, .bool true, .bool true], .bool false, .bool b] W fun e w' => e = .returned (.tuple #[.agg Y.c, .int .i64 0]) ∧ Kp [] W w') := hide (fun b Y hY ad cp rs W h1 h2 h3 h4 h5 => by
    have := nstep_any ad cp rs 5 ⟨1, true, true⟩ false b W h1 h5 h4 (by omega)
    have he : (⟨stgs rs, 5⟩ : Ptn) = exN := by rw [h2]; rfl
    rw [he, exN_one.1, hY, h3] at this
    exact this)
  have HS1 := hide (unhide HST false _ exN_one.2)
  have HS2 := hide (unhide HST true _ exN_two)
  have HT := hide hT
  have EF := fun W => eqF 9998 0 0 0 0 W
  have EN := fun W => eqN 9998 ⟨1, true, true⟩ ⟨1, true, true⟩ W
  have E1 := fun W => eqS 9997 ⟨zN, zN, ⟨1, false, true⟩, false, false, true⟩ ⟨zN, zN, ⟨1, false, true⟩, false, false, true⟩ W
  have E2 := fun W => eqS 9997 ⟨zN, ⟨2, false, false⟩, zN, false, true, false⟩ ⟨zN, ⟨2, false, false⟩, zN, false, true, false⟩ W
  rw [ndE_self] at EN
  rw [spE_self] at E1 E2
  unfold Nd.c at EN
  unfold Sps.c zN at E1 E2 HS1 HS2
  dsimp only at EN E1 E2 HS1 HS2
  clear R1 hT HST
  go_enter Tryz.func17, Tryz.ntmps17
  go_wp2_with fail
  refine (unhide HR1).mono ?_
  rintro e w1 ⟨ad, cp, rs, rfl, hA, hst, hl2, hok, hk1⟩
  have kv : Kp [] w1 ((w1.alloc (.cells #[.slice ad 2 cp, .int .i64 5] 24)).alloc (.cells #[.int .i64 0, .int .i64 0] 61)) := (Kp.alloc _ _).trans (Kp.alloc _ _) (by simp)
  have hP1 := rp_b0 w1 #[.slice ad 2 cp, .int .i64 5] 24 (.cells #[.int .i64 0, .int .i64 0] 61)
  have hF1 := rp_b1 w1 #[.int .i64 0, .int .i64 0] 61 (.cells #[.slice ad 2 cp, .int .i64 5] 24)
  have HV : Hid (∀ W, Kp [] ((w1.alloc (.cells #[.slice ad 2 cp, .int .i64 5] 24)).alloc (.cells #[.int .i64 0, .int .i64 0] 61)) W → (W.cell? ⟨w1.heap.size, 0, none⟩ = some (.slice ad 2 cp) ∧ W.cell? ⟨w1.heap.size, 1, none⟩ = some (.int .i64 5) ∧ W.cell? ⟨w1.heap.size + 1, 0, none⟩ = some (.int .i64 0) ∧ W.cell? ⟨w1.heap.size + 1, 1, none⟩ = some (.int .i64 0)) ∧ Hid (StsAt W ad rs) ∧ Hid (TbE W) ∧ Hid (Kp [] w W) ∧ w1.heap.size + 1 < W.heap.size) := hide (fun W hk => ⟨⟨(hP1.kp hk (by simp)).cell rfl, (hP1.kp hk (by simp)).cell rfl, (hF1.kp hk (by simp)).cell rfl, (hF1.kp hk (by simp)).cell rfl⟩, hide ((hA.kp kv).kp hk), hide ((unhide HT).kp ((hk1.trans kv (by simp)).trans hk (by simp)) (by simp)), hide ((hk1.trans kv (by simp)).trans hk (by simp)), by have := hk.size; simp at this; omega⟩)
  obtain ⟨⟨p0, p1, -, -⟩, HA1, HT1, _, _⟩ := unhide HV _ (Kp.refl _ _)
  have BG := hide (unhide HBG ad cp rs _ (unhide HA1) hst hl2 hok (unhide HT1))
  have S1 := hide (fun W (hk : Kp [] _ W) => unhide HS1 ad cp rs W (unhide (unhide HV W hk).2.1) hst hl2 hok (unhide (unhide HV W hk).2.2.1))
  have S2 := hide (fun W (hk : Kp [] _ W) => unhide HS2 ad cp rs W (unhide (unhide HV W hk).2.1) hst hl2 hok (unhide (unhide HV W hk).2.2.1))
  clear HR1 HBG HS1 HS2 hA hst hl2 hok hk1 kv hP1 hF1 HT HA1 HT1
  go_wp2_with fail
  refine (unhide BG).mono ?_
  rintro e w2 ⟨rfl, hk2⟩
  have HB2 := hide (CBox.new w2 #[.int .i64 1, .bool true, .bool true] 26)
  have HK2 := hide (hk2.trans (Kp.alloc w2 (.cells #[.int .i64 1, .bool true, .bool true] 26)) (by simp))
  obtain ⟨⟨q0, q1, -, -⟩, -, -, -, hlt2⟩ := unhide HV _ (unhide HK2)
  have n0 := (unhide HB2).cell (i := 0) (v := .int .i64 1) rfl
  have n1 := (unhide HB2).cell (i := 1) (v := .bool true) rfl
  have n2 := (unhide HB2).cell (i := 2) (v := .bool true) rfl
  clear BG hk2 p0 p1
  go_wp2_with fail
  refine (unhide S1 _ (unhide HK2)).mono ?_
  rintro e w3 ⟨rfl, hk3⟩
  have HB3 := hide (CBox.new w3 #[.int .i64 0, .bool false, .bool false, .int .i64 0, .bool false, .bool false, .int .i64 1, .bool false, .bool true, .bool false, .bool false, .bool true] 29)
  have hk3' := hk3.trans (Kp.alloc w3 (.cells #[.int .i64 0, .bool false, .bool false, .int .i64 0, .bool false, .bool false, .int .i64 1, .bool false, .bool true, .bool false, .bool false, .bool true] 29)) (by simp)
  have HK3 := hide ((unhide HK2).trans hk3' (by simp))
  have HB23 := hide ((unhide HB2).kp hk3' (by simp))
  obtain ⟨⟨r0, r1, -, -⟩, -, -, -, hlt3⟩ := unhide HV _ (unhide HK3)
  have m0 := (unhide HB23).cell (i := 0) (v := .int .i64 1) rfl
  have m1 := (unhide HB23).cell (i := 1) (v := .bool true) rfl
  have m2 := (unhide HB23).cell (i := 2) (v := .bool true) rfl
  clear S1 hk3 hk3' HK2 HB2 q0 q1 n0 n1 n2 hlt2
  go_wp2_with fail
  refine (unhide S2 _ (unhide HK3)).mono ?_
  rintro e w4 ⟨rfl, hk4⟩
  have hb4 := CBox.new w4 #[.int .i64 0, .bool false, .bool false, .int .i64 2, .bool false, .bool false, .int .i64 0, .bool false, .bool false, .bool false, .bool true, .bool false] 29
  have hk4' := hk4.trans (Kp.alloc w4 (.cells #[.int .i64 0, .bool false, .bool false, .int .i64 2, .bool false, .bool false, .int .i64 0, .bool false, .bool false, .bool false, .bool true, .bool false] 29)) (by simp)
  obtain ⟨⟨-, -, f0, f1⟩, -, -, HW, hlt4⟩ := unhide HV _ ((unhide HK3).trans hk4' (by simp))
  have hb2 := (unhide HB23).kp hk4' (by simp)
  have hb3 := (unhide HB3).kp hk4' (by simp)
  have n0 := hb2.cell (i := 0) (v := .int .i64 1) rfl
  have n1 := hb2.cell (i := 1) (v := .bool true) rfl
  have n2 := hb2.cell (i := 2) (v := .bool true) rfl
  obtain ⟨a0, a1, a2, a3, a4, a5, a6, a7, a8, a9, a10, a11⟩ := st12_cells (s := ⟨zN, zN, ⟨1, false, true⟩, false, false, true⟩) hb3
  obtain ⟨b0, b1, b2, b3, b4, b5, b6, b7, b8, b9, b10, b11⟩ := st12_cells (s := ⟨zN, ⟨2, false, false⟩, zN, false, true, false⟩) hb4
  clear S2 hk4 hk4' HK3 HB23 HB3 r0 r1 m0 m1 m2 hlt3 HV hb2 hb3 hb4
  unfold zN at a0 a1 a2 a3 a4 a5 a6 a7 a8 a9 a10 a11 b0 b1 b2 b3 b4 b5 b6 b7 b8 b9 b10 b11
  dsimp only at a0 a1 a2 a3 a4 a5 a6 a7 a8 a9 a10 a11 b0 b1 b2 b3 b4 b5 b6 b7 b8 b9 b10 b11
  go_wp2
  go_ret
  exact ⟨rfl, unhide HW⟩
end Go.Proofs.YtjijhefmbmdbeaaGreatDoor
namespace Go.Proofs.YtjijhefmbmdbeaaGreatDoor
open Go.RowKit

/-- Numbers lie where the slice says. -/
def IntsAt (w : World) (ad : Option Addr) (l : List Int) : Prop :=
  l ≠ [] → ∃ b off, ad = some ⟨b, off, none⟩ ∧ b < w.heap.size ∧ ∀ i (h : i < l.length), w.cell? ⟨b, off + i, none⟩ = some (.int .i64 l[i])
theorem IntsAt.below {w w' : World} {B : Nat} {ad : Option Addr} {l : List Int} (h : IntsAt w ad l) (hb : Below B w w') (hB : w.heap.size ≤ B) : IntsAt w' ad l := fun hl => by
  obtain ⟨b, off, e, hlt, hc⟩ := h hl
  exact ⟨b, off, e, Nat.lt_of_lt_of_le hlt hb.size, fun i hi => (hb.cell (p := ⟨b, off + i, none⟩) (Nat.lt_of_lt_of_le hlt hB)).trans (hc i hi)⟩
end Go.Proofs.YtjijhefmbmdbeaaGreatDoor
namespace Go.Proofs.YtjijhefmbmdbeaaGreatDoor
open Go.RowKit Go.Shelf

/-- A pattern's box and a node's. -/
structure PnB (w W : World) (pc : Array Value) (n : Nd) : Prop where
  p : CBox w.heap.size pc 24 W
  n : CBox (w.heap.size + 1) n.c 26 W
  k : Kp [] w W
theorem PnB.new (w : World) (pc : Array Value) (n : Nd) : PnB w ((w.alloc (.cells pc 24)).alloc (.cells n.c 26)) pc n :=
  ⟨rp_b0 w pc _ _, rp_b1 w n.c _ _, (Kp.alloc _ _).trans (Kp.alloc _ _) (by simp)⟩
theorem PnB.kp {w W W' : World} {pc : Array Value} {n : Nd} (h : PnB w W pc n) (hk : Kp [] W W') : PnB w W' pc n := ⟨h.p.kp hk (by simp), h.n.kp hk (by simp), h.k.trans hk (by simp)⟩
theorem PnB.cells {w W : World} {v u : Value} {n : Nd} (h : PnB w W #[v, u] n) : (W.cell? ⟨w.heap.size, 0, none⟩ = some v ∧ W.cell? ⟨w.heap.size, 1, none⟩ = some u) ∧ W.cell? ⟨w.heap.size + 1, 0, none⟩ = some (.int .i64 n.st) ∧ W.cell? ⟨w.heap.size + 1, 1, none⟩ = some (.bool n.lp) ∧ W.cell? ⟨w.heap.size + 1, 2, none⟩ = some (.bool n.tk) :=
  ⟨⟨h.p.cell rfl, h.p.cell rfl⟩, h.n.cell rfl, h.n.cell rfl, h.n.cell rfl⟩
theorem PnB.lt {w W : World} {pc : Array Value} {n : Nd} (h : PnB w W pc n) : w.heap.size + 1 < W.heap.size := (Array.getElem?_eq_some_iff.1 h.n).1
theorem PnB.put {w W : World} {pc : Array Value} {n : Nd} (h : PnB w W pc n) (x : Nd) : PnB w (((W.setCell ⟨w.heap.size + 1, 0, none⟩ (.int .i64 x.st)).setCell ⟨w.heap.size + 1, 1, none⟩ (.bool x.lp)).setCell ⟨w.heap.size + 1, 2, none⟩ (.bool x.tk)) pc x :=
  ⟨h.p.kp (Kp.set3 _ _ _ _ _) (by simp), h.n.set3 _ _ _, h.k.trans (Kp.set3 _ _ _ _ _) (fun y hy => Or.inr (by simp only [List.mem_singleton] at hy; omega))⟩
/-- Twelve cells of a new block written. -/
def putS (W : World) (g : Nat) (Y : Sps) : World := ((((((((((((W.setCell ⟨g, 0, none⟩ (.int .i64 Y.lp.st)).setCell ⟨g, 1, none⟩ (.bool Y.lp.lp)).setCell ⟨g, 2, none⟩ (.bool Y.lp.tk)).setCell ⟨g, 3, none⟩ (.int .i64 Y.tk.st)).setCell ⟨g, 4, none⟩ (.bool Y.tk.lp)).setCell ⟨g, 5, none⟩ (.bool Y.tk.tk)).setCell ⟨g, 6, none⟩ (.int .i64 Y.wt.st)).setCell ⟨g, 7, none⟩ (.bool Y.wt.lp)).setCell ⟨g, 8, none⟩ (.bool Y.wt.tk)).setCell ⟨g, 9, none⟩ (.bool Y.cl)).setCell ⟨g, 10, none⟩ (.bool Y.ct)).setCell ⟨g, 11, none⟩ (.bool Y.cw))
theorem steps_put {w W : World} {g : Nat} (hk : Kp [] w W) (hz : CBox g zS.c 29 W) (hg : w.heap.size ≤ g) (Y : Sps) : CBox g Y.c 29 (putS W g Y) ∧ Kp [] w (putS W g Y) := by
  obtain ⟨h1, h2⟩ := put12 (show CBox g #[.int .i64 0, .bool false, .bool false, .int .i64 0, .bool false, .bool false, .int .i64 0, .bool false, .bool false, .bool false, .bool false, .bool false] 29 W from hz) (.int .i64 Y.lp.st) (.bool Y.lp.lp) (.bool Y.lp.tk) (.int .i64 Y.tk.st) (.bool Y.tk.lp) (.bool Y.tk.tk) (.int .i64 Y.wt.st) (.bool Y.wt.lp) (.bool Y.wt.tk) (.bool Y.cl) (.bool Y.ct) (.bool Y.cw)
  exact ⟨h1, hk.trans h2 (fun x hx => Or.inr (by simp only [List.mem_singleton] at hx; omega))⟩
end Go.Proofs.YtjijhefmbmdbeaaGreatDoor
