/-
  parse: tokens that end with an end are read as the plain reader has it.
  append of parts that lie anywhere to a row of parts of the call's own.
  Patterns: how stages lie; Check.
-/
import Derived.Test.YtjijhefmbmdbeaaGreatDoorD20
import Derived.Test.YtjijhefmbmdbeaaGreatDoorD15
import Derived.Test.YtjijhefmbmdbeaaGreatDoorD21
namespace Go.Proofs.YtjijhefmbmdbeaaGreatDoor
open Go.RowKit Go.Shelf

theorem info_rd : (Tryz.prog.info? 204).map (·.size) = some 75 := by kernel_rfl
/-- A row of parts of the call's own. -/
def OwnsP (B : Nat) (w : World) (v : Value) (l : List Pt) : Prop := w.ownsRow B 86 5 v l.length (l.flatMap ptE)
/-- What parse tells of tokens. -/
def PsT (l : List Tk) (B : Nat) (P : PR) (e : Ending) (w' : World) : Prop := match P with
  | .bad q => e = .returned (.tuple #[.slice none 0 0, .int .i64 0, .agg #[.int .i64 (hdPl q), .int .i64 110]])
  | .good x q => if ckK x = 0 then e = .returned (.tuple #[.slice none 0 0, .int .i64 0, .agg #[.int .i64 0, .int .i64 110]]) else ∃ v k, e = .returned (.tuple #[v, .int .i64 ((k : Nat) : Int), .agg #[.int .i64 0, .int .i64 0]]) ∧ k ≤ l.length ∧ l.drop k = q ∧ OwnsP B w' v x
theorem PsT.bad {l : List Tk} {B : Nat} {P : PR} {t : Tk} {r : List Tk} {w' : World} (h : P = .bad (t :: r)) : PsT l B P (.returned (.tuple #[.slice none 0 0, .int .i64 0, .agg #[.int .i64 t.pl, .int .i64 110]])) w' := by subst h; rfl
theorem PsT.no {l : List Tk} {B : Nat} {P : PR} {x : List Pt} {q : List Tk} {w' : World} (h : P = .good x q) (h0 : ckK x = 0) : PsT l B P (.returned (.tuple #[.slice none 0 0, .int .i64 0, .agg #[.int .i64 0, .int .i64 110]])) w' := by
  subst h
  unfold PsT
  dsimp only
  rw [if_pos h0]
theorem PsT.yes {l : List Tk} {B : Nat} {P : PR} {x : List Pt} {q : List Tk} {w' : World} {v : Value} {k : Nat} (h : P = .good x q) (h0 : ckK x ≠ 0) (hk : k ≤ l.length) (hq : l.drop k = q) (ho : OwnsP B w' v x) : PsT l B P (.returned (.tuple #[v, .int .i64 (k : Int), .agg #[.int .i64 0, .int .i64 0]])) w' := by
  subst h
  unfold PsT
  dsimp only
  rw [if_neg h0]
  exact ⟨v, k, rfl, hk, hq, ho⟩
theorem TksLow.mono {B B' : Nat} {W : World} {tk : Value} {l : List Tk} (h : TksLow B W tk l) (hB : B ≤ B') : TksLow B' W tk l := by
  obtain ⟨b, off, cap, e, hlt, hc⟩ := h
  exact ⟨b, off, cap, e, by omega, hc⟩
theorem OpsLow.mono {B B' : Nat} {W : World} {ov : Value} {os : List Int} (h : OpsLow B W ov os) (hB : B ≤ B') : OpsLow B' W ov os := by
  rcases h with h | ⟨b, e, hlt, hc⟩
  · exact Or.inl h
  · exact Or.inr ⟨b, e, by omega, hc⟩
theorem LvsLow.mono {B B' : Nat} {W : World} {lv : Value} (h : LvsLow B W lv) (hB : B ≤ B') : LvsLow B' W lv := by
  obtain ⟨b, e, hlt, hc⟩ := h
  refine ⟨b, e, by omega, fun n hn => ?_⟩
  obtain ⟨c0, ov, c1, c2⟩ := hc n hn
  exact ⟨c0, ov, c1, c2.mono hB⟩
theorem OwnsP.mono {B B' : Nat} {w : World} {v : Value} {l : List Pt} (h : OwnsP B w v l) (hB : B' ≤ B) : OwnsP B' w v l := by
  obtain ⟨h1, h2 | ⟨g, cap, cur, e, hg, r⟩⟩ := h
  · exact ⟨h1, Or.inl h2⟩
  · exact ⟨h1, Or.inr ⟨g, cap, cur, e, by omega, r⟩⟩
theorem OwnsP.kp {B : Nat} {w w' : World} {v : Value} {l : List Pt} (h : OwnsP B w v l) (hk : Kp [] w w') : OwnsP B w' v l := row_kp h hk (by simp)
theorem OwnsP.nil (B : Nat) (w : World) : OwnsP B w (.slice none 0 0) [] := World.ownsRow_nil _ _ _ _
theorem OwnsP.at {B : Nat} {w : World} {v : Value} {l : List Pt} (h : OwnsP B w v l) : ∃ ad cp, v = .slice ad l.length cp ∧ PtsAt w ad l ∧ l.length ≤ cp := by
  obtain ⟨_, ⟨rfl, h0⟩ | ⟨g, cp, cur, rfl, _, _, hcap, _⟩⟩ := id h
  · refine ⟨none, 0, by rw [h0], fun hne => ?_, by omega⟩
    exact absurd (List.eq_nil_of_length_eq_zero h0) hne
  · have hl := World.ownsRow.lt h g rfl
    refine ⟨_, _, rfl, fun _ => ⟨g, 0, rfl, hl.2, fun i hi => ?_⟩, hcap⟩
    have c := fun j (hj : j < 5) => own_cell ptE_len h i j hi hj
    simp only [Nat.zero_add]
    exact ⟨c 0 (by omega), c 1 (by omega), c 2 (by omega), c 3 (by omega), c 4 (by omega)⟩
/-- A fault's cells, written. -/
theorem FBox.two {b : Nat} {w : World} (h : FBox b w) (x y : Value) : CBox b #[x, y] 61 ((w.setCell ⟨b, 0, none⟩ x).setCell ⟨b, 1, none⟩ y) := CBox.set (CBox.set h 0 x) 1 y
theorem two_cells {b : Nat} {w : World} {x y : Value} (h : CBox b #[x, y] 61 w) : w.cell? ⟨b, 0, none⟩ = some x ∧ w.cell? ⟨b, 1, none⟩ = some y := ⟨h.cell rfl, h.cell rfl⟩
theorem two_below {b B : Nat} {w w' : World} (h : Below B w w') (hB : B ≤ b) (x y : Value) : Below B w (((w'.setCell ⟨b, 0, none⟩ x).setCell ⟨b, 1, none⟩ y)) := (h.setCell (p := ⟨b, 0, none⟩) hB _).setCell (p := ⟨b, 1, none⟩) hB _
/-- The reader as it is built. -/
theorem rd_built (lv tk : Value) : ((Array.foldl (fun cs x => cs.setIfInBounds (1 + x.snd) x.fst) (Tryz.zeroCells204.setIfInBounds 0 lv) opsV.zipIdx 0 opsV.size).setIfInBounds 71 tk) = rdC lv tk 0 0 (.slice none 0 0) := by kernel_rfl
theorem rd_size (lv : Value) : (Array.foldl (fun cs x => cs.setIfInBounds (1 + x.snd) x.fst) (Tryz.zeroCells204.setIfInBounds 0 lv) opsV.zipIdx 0 opsV.size).size = 75 := by kernel_rfl
theorem rdC_one (lv tk : Value) (h1 : lv.oneCell' = true) (h2 : tk.oneCell' = true) : (rdC lv tk 0 0 (.slice none 0 0)).all (·.oneCell') = true := by
  unfold rdC
  rw [Array.all_append, Array.all_append, opsV_one]
  simp [h1, h2]
  exact ⟨rfl, rfl⟩
theorem rdC_size (lv tk : Value) : (rdC lv tk 0 0 (.slice none 0 0)).size = 75 := by
  unfold rdC
  rw [Array.size_append, Array.size_append, opsV_size]
  rfl
theorem rd_store (w : World) (lv tk : Value) (h1 : lv.oneCell' = true) (h2 : tk.oneCell' = true) : (storeCells ⟨w.heap.size, 0, none⟩ ((Array.foldl (fun cs x => cs.setIfInBounds (1 + x.snd) x.fst) (Tryz.zeroCells204.setIfInBounds 0 lv) opsV.zipIdx 0 opsV.size).toList.set 71 tk) 0).run Tryz.prog (w.alloc (.cells Tryz.zeroCells204 204)) = .ok () (w.alloc (.cells (rdC lv tk 0 0 (.slice none 0 0)) 204)) := by
  rw [← Array.toList_setIfInBounds, rd_built]
  exact run_storeCells_new w 204 Tryz.zeroCells204 (rdC lv tk 0 0 (.slice none 0 0)) (by rw [rdC_size]; exact info_rd) (by rw [rdC_size]; kernel_rfl) (rdC_one lv tk h1 h2)
attribute [local irreducible] opsV
set_option maxHeartbeats 4000000 in
set_option maxRecDepth 100000 in
theorem parse_any (tk : Value) (l : List Tk) (w : World) (ht : TksLow w.heap.size w tk l) (hT : TbE w) (hl : l.length ≤ 100000) (hok : ∀ t ∈ l, t.s.size ≤ 140737488351232) (hE : Endd l) (hk : ∀ t ∈ l, t.ok) :
    Calls Tryz.prog 131 #[tk] w fun e w' => PsT l w.heap.size (psR l) e w' ∧ Below w.heap.size w w' := by
  obtain ⟨tb, tf, tc, rfl, htb, htc⟩ := id ht
  clear htb htc
  have HT := hide ht
  have HTb := hide hT
  have HE := hide hE
  have HK := hide hk
  have HOK := hide hok
  clear ht hT hE hk hok
  go_enter Tryz.func131, Tryz.ntmps131
  go_wp2_with fail
  refine (grammar_any _).mono ?_
  rintro e w1 ⟨lv, rfl, hlv, hk1⟩
  obtain ⟨lb, rfl, hlb, hlc⟩ := id hlv
  clear hlb hlc
  have HLV := hide hlv
  have HK1 := hide hk1
  clear hlv hk1
  go_wp2_with fail
  refine (operations_any _).mono ?_
  rintro e w2 ⟨rfl, hk2⟩
  have HK2 := hide hk2
  clear hk2
  have rs := rd_size (.slice (some ⟨lb, 0, none⟩) 7 7)
  have st := rd_store w2 (.slice (some ⟨lb, 0, none⟩) 7 7) (.slice (some ⟨tb, tf, none⟩) l.length tc) rfl rfl
  have hs70 := opsV_size
  rw [opsV_size] at rs st
  go_wp2_with fail
  clear rs st
  have hb0 : Below w.heap.size w w2 := by
    have a0 : Below w.heap.size w (w.alloc (.cells #[.int .i64 0, .int .i64 0] 61)) := (Below.refl _ _).alloc (Nat.le_refl _) _
    have a1 := (unhide HK1).below (B := w.heap.size) (by simp) (by simp)
    have a2 := (unhide HK2).below (B := w.heap.size) (by have := (unhide HK1).size; simp at this; omega) (by simp)
    exact (a0.trans a1).trans a2
  have fb0 : FBox w.heap.size w2 := CBox.kp (CBox.kp (CBox.new w _ _) (unhide HK1) (by simp)) (unhide HK2) (by simp)
  have hw2 := hb0.size
  have hB3 : Below w2.heap.size w2 (w2.alloc (.cells (rdC (.slice (some ⟨lb, 0, none⟩) 7 7) (.slice (some ⟨tb, tf, none⟩) l.length tc) 0 0 (.slice none 0 0)) 204)) := (Below.refl _ _).alloc (Nat.le_refl _) _
  have hRd : Rd w2.heap.size (.slice (some ⟨lb, 0, none⟩) 7 7) (.slice (some ⟨tb, tf, none⟩) l.length tc) l 0 0 [] (w2.alloc (.cells (rdC (.slice (some ⟨lb, 0, none⟩) 7 7) (.slice (some ⟨tb, tf, none⟩) l.length tc) 0 0 (.slice none 0 0)) 204)) := by
    have t1 : TbE w2 := (unhide HTb).below hb0 (unhide HTb).low
    have t2 : TksLow w2.heap.size w2 (.slice (some ⟨tb, tf, none⟩) l.length tc) l := ((unhide HT).below hb0).mono hw2
    have t3 : LvsLow w2.heap.size w2 (.slice (some ⟨lb, 0, none⟩) 7 7) := ((unhide HLV).below ((unhide HK2).below (Nat.le_refl _) (by simp))).mono (unhide HK2).size
    exact ⟨⟨t2.below hB3, t3.below hB3, t1.alloc _, t1.low, hl, unhide HOK⟩, _, CBox.new w2 _ _, World.ownsRow_nil _ _ _ _⟩
  have RD := rd_any (mRd 0 l) w2.heap.size (.slice (some ⟨lb, 0, none⟩) 7 7) (.slice (some ⟨tb, tf, none⟩) l.length tc) l 0 0 [] _ 0 hRd (by omega) (by rw [List.drop_zero]; exact unhide HE) (by omega) (by rw [List.drop_zero]; simp; omega) (by rw [List.drop_zero]; exact Nat.le_refl _)
  rw [List.drop_zero] at RD
  have HRD := hide RD
  clear RD
  refine (unhide HRD).mono ?_
  intro e w3 hR
  clear HRD hRd
  have hfit := pRd_fits (mRd 0 l) 0 0 [] l (unhide HK) (fun p hp => by cases hp)
  have hend := (pRd_ok (mRd 0 l) 0 0 [] l (unhide HE)).1
  have hP0 : psR l = pRd (mRd 0 l) 0 0 [] l := rfl
  rw [← hP0] at hR hfit hend
  clear hP0
  cases hP : psR l with
  | bad q =>
    rw [hP] at hR hend
    obtain ⟨rfl, ⟨k, ps', hq, hkl, hr⟩, hb3⟩ := hR
    have hb : Below w.heap.size w w3 := hb0.trans ((hB3.trans hb3).mono hw2)
    have fb3 := fb0.below (hB3.trans hb3) fb0.lt
    cases q with
    | nil => exact absurd rfl hend.1.ne
    | cons t r =>
      obtain ⟨hk, hlt, _⟩ := drop_at hq
      obtain ⟨b', off', cap', e1, hlt2, hc⟩ := hr.env.tks
      cases e1
      obtain ⟨_, _, _, c3⟩ := hc k hk
      rw [hlt] at c3
      obtain ⟨c72, _, _, _⟩ := hr.cells
      obtain ⟨f0, f1, fz0, fz1⟩ := fb3.cells
      have hlf := fb3.lt
      have HF3 := hide fb3
      have HPs := hide hP
      have HPB : Hid (∀ W, PsT l w.heap.size (psR l) (.returned (.tuple #[.slice none 0 0, .int .i64 0, .agg #[.int .i64 t.pl, .int .i64 110]])) W) := hide (fun W => PsT.bad (unhide HPs))
      have HB := hide hb
      clear hr hc hlt hq hend hfit hP hb hb3 hB3 hb0 fb0 fb3 HT HTb HE HK HOK HLV HK1 HK2
      generalize Value.agg (Array.setIfInBounds _ 71 _) = AG
      obtain ⟨tkd, ts, tn, tpl⟩ := t
      dsimp only at c3 HPB
      go_wp2
      go_region
      go_wp2
      have q2 : CBox w.heap.size #[.int .i64 tpl, .int .i64 110] 61 (((w3.setCell ⟨w.heap.size, 0, none⟩ (.int .i64 tpl)).setCell ⟨w.heap.size, 1, none⟩ (.int .i64 110)).drew) := (unhide HF3).two _ _
      obtain ⟨z0, z1⟩ := two_cells q2
      exact bodyPost_ret (v := .tuple #[.slice none 0 0, .int .i64 0, .agg #[.int .i64 tpl, .int .i64 110]]) (by simp [results, Tryz.results131, go_sem, z0, z1]) rfl ⟨unhide HPB _, (two_below (unhide HB) (Nat.le_refl _) _ _).drew⟩
  | good x q =>
    rw [hP] at hR hend hfit
    obtain ⟨rfl, ⟨k, hq, hkl, hr⟩, hb3⟩ := hR
    have hb : Below w.heap.size w w3 := hb0.trans ((hB3.trans hb3).mono hw2)
    have fb3 := fb0.below (hB3.trans hb3) fb0.lt
    rw [List.nil_append] at hr
    obtain ⟨pv, hbox, hown⟩ := hr.box
    have hown' : OwnsP (w2.heap.size + 1) w3 pv x := hown
    obtain ⟨ad, cp, rfl, hat, hcp⟩ := hown'.at
    have CK := check_any ad cp x w3 hat hr.env.tab (fun p hp => (hfit p hp).2.2.2.1)
    have c72 := hbox.cell (rdC_72 _ _ _ _ _)
    have c74 := hbox.cell (rdC_74 _ _ _ _ _)
    have HL : Hid (∀ w4, Below w3.heap.size w3 w4 → (w4.cell? ⟨w2.heap.size, 72, none⟩ = some (.int .i64 (k : Int)) ∧ w4.cell? ⟨w2.heap.size, 74, none⟩ = some (.slice ad x.length cp)) ∧ FBox w.heap.size w4 ∧ Hid (OwnsP w.heap.size w4 (.slice ad x.length cp) x) ∧ Hid (Below w.heap.size w w4)) := hide (fun w4 hb4 => ⟨⟨(Kp.ofBelow hb4).cell c72 (by simp), (Kp.ofBelow hb4).cell c74 (by simp)⟩, fb3.below hb4 fb3.lt, hide ((hown'.kp (Kp.ofBelow hb4)).mono (by omega)), hide (hb.trans (hb4.mono hb.size))⟩)
    have HCK := hide CK
    have HPs := hide hP
    clear hr hbox hown hown' hat hend hP hb hb3 hB3 hb0 fb0 fb3 HT HTb HE HK HOK HLV HK1 HK2 CK hfit c72
    generalize Value.agg (Array.setIfInBounds _ 71 _) = AG
    by_cases h0 : ckK x = 0
    · have HPB : Hid (∀ W, PsT l w.heap.size (psR l) (.returned (.tuple #[.slice none 0 0, .int .i64 0, .agg #[.int .i64 0, .int .i64 110]])) W) := hide (fun W => PsT.no (unhide HPs) h0)
      rw [h0, if_pos rfl] at HCK
      clear h0
      go_wp2_with fail
      refine (unhide HCK).mono ?_
      rintro e w4 ⟨rfl, hb4⟩
      obtain ⟨⟨d72, d74⟩, fb4, HO, HB⟩ := unhide HL w4 hb4
      obtain ⟨f0, f1, fz0, fz1⟩ := fb4.cells
      have HF4 := hide fb4
      clear HCK HL hb4 fb4 c74
      go_wp2
      have q2 : CBox w.heap.size #[.int .i64 0, .int .i64 110] 61 (((w4.setCell ⟨w.heap.size, 0, none⟩ (.int .i64 0)).setCell ⟨w.heap.size, 1, none⟩ (.int .i64 110))) := (unhide HF4).two _ _
      obtain ⟨z0, z1⟩ := two_cells q2
      exact bodyPost_ret (v := .tuple #[.slice none 0 0, .int .i64 0, .agg #[.int .i64 0, .int .i64 110]]) (by simp [results, Tryz.results131, go_sem, z0, z1]) rfl ⟨unhide HPB _, two_below (unhide HB) (Nat.le_refl _) _ _⟩
    · have HPB : Hid (∀ W, OwnsP w.heap.size W (.slice ad x.length cp) x → PsT l w.heap.size (psR l) (.returned (.tuple #[.slice ad x.length cp, .int .i64 (k : Int), .agg #[.int .i64 0, .int .i64 0]])) W) := hide (fun W ho => PsT.yes (unhide HPs) h0 hkl hq ho)
      rw [if_neg h0] at HCK
      generalize ckK x = ck at *
      clear h0
      go_wp2_with fail
      refine (unhide HCK).mono ?_
      rintro e w4 ⟨rfl, hb4⟩
      obtain ⟨⟨d72, d74⟩, fb4, HO, HB⟩ := unhide HL w4 hb4
      obtain ⟨f0, f1, fz0, fz1⟩ := fb4.cells
      have HF4 := hide fb4
      clear HCK HL hb4 fb4 c74
      go_wp2
      have HO2 : Hid (OwnsP w.heap.size (((w4.setCell ⟨w.heap.size, 0, none⟩ (.int .i64 0)).setCell ⟨w.heap.size, 1, none⟩ (.int .i64 0)).drew) (.slice ad x.length cp) x) := hide (row_kp (F := [w.heap.size]) (W' := (w4.setCell ⟨w.heap.size, 0, none⟩ (.int .i64 0)).setCell ⟨w.heap.size, 1, none⟩ (.int .i64 0)) (unhide HO) ((Kp.set w4 w.heap.size 0 (.int .i64 0)).trans (Kp.set (w4.setCell ⟨w.heap.size, 0, none⟩ (.int .i64 0)) w.heap.size 1 (.int .i64 0)) (by simp)) (fun g hg => by have := row_ne (unhide HO) (unhide HF4) (by decide); rw [hg] at this; simp at this ⊢; exact this))
      go_region
      go_wp2
      have q2 : CBox w.heap.size #[.int .i64 0, .int .i64 0] 61 (((w4.setCell ⟨w.heap.size, 0, none⟩ (.int .i64 0)).setCell ⟨w.heap.size, 1, none⟩ (.int .i64 0)).drew) := (unhide HF4).two _ _
      obtain ⟨z0, z1⟩ := two_cells q2
      exact bodyPost_ret (v := .tuple #[.slice ad x.length cp, .int .i64 (k : Int), .agg #[.int .i64 0, .int .i64 0]]) (by simp [results, Tryz.results131, go_sem, z0, z1]) rfl ⟨unhide HPB _ (unhide HO2), (two_below (unhide HB) (Nat.le_refl _) _ _).drew⟩
end Go.Proofs.YtjijhefmbmdbeaaGreatDoor
namespace Go.Proofs.YtjijhefmbmdbeaaGreatDoor
open Go.RowKit Go.Shelf

theorem OwnsP.base {B g n cap : Nat} {w : World} {l : List Pt} (h : OwnsP 0 w (.slice (some ⟨g, 0, none⟩) n cap) l) (hB : B ≤ g) : OwnsP B w (.slice (some ⟨g, 0, none⟩) n cap) l := by
  obtain ⟨h1, ⟨e, _⟩ | ⟨g', c', cur, e, _, r⟩⟩ := h
  · cases e
  · cases e
    exact ⟨h1, Or.inr ⟨_, _, cur, rfl, hB, r⟩⟩
/-- A row of one part, just made. -/
theorem OwnsP.one (w : World) (p : Pt) : OwnsP w.heap.size (w.alloc (.cells (ptE p).toArray 86)) (.slice (some ⟨w.heap.size, 0, none⟩) 1 1) [p] :=
  ⟨by simp [ptE], Or.inr ⟨w.heap.size, 1, _, rfl, Nat.le_refl _, CBox.new w _ _, Nat.le_refl _, by unfold maxLen; omega, rfl, by simp [ptE]⟩⟩
end Go.Proofs.YtjijhefmbmdbeaaGreatDoor
namespace Go.Proofs.YtjijhefmbmdbeaaGreatDoor
open Go.RowKit Go.Shelf

set_option maxHeartbeats 1000000 in
set_option maxRecDepth 100000 in
theorem isName_any (s : ByteArray) (w : World) (hT : TbE w) (hs : s.size ≤ 9223372036854775807) :
    Calls Tryz.prog 53 #[.string s] w fun e w' => e = .returned (.bool (isSg s)) ∧ Below w.heap.size w w' := by
  have ho := OwnsP.one w ⟨3, 0, ⟨#[]⟩, s, 0⟩
  obtain ⟨a', c', e', hat, _⟩ := ho.at
  injection e' with e1 e2 e3
  subst e1 e3
  have CK := hide (check_any (some ⟨w.heap.size, 0, none⟩) 1 [⟨3, 0, ⟨#[]⟩, s, 0⟩] _ hat (hT.alloc _) (fun p hp => by simp only [List.mem_singleton] at hp; subst hp; exact hs))
  have HB := hide ((Below.refl w.heap.size w).alloc (Nat.le_refl _) (.cells (ptE ⟨3, 0, ⟨#[]⟩, s, 0⟩).toArray 86))
  have hN := name_is s
  have g1 := emp_toList s
  have g2 := emp_str s
  rw [hN]
  unfold ptE at CK HB
  dsimp only at CK HB
  rw [List.length_singleton] at CK
  clear ho hat e2 hN hT
  generalize (if ckK [⟨3, 0, ⟨#[]⟩, s, 0⟩] = 0 then (110 : Int) else 0) = EC at *
  generalize ckK [⟨3, 0, ⟨#[]⟩, s, 0⟩] = KC at *
  generalize emptyB s = ES at *
  cases ES with
  | true =>
    rw [Bool.not_true, Bool.false_and]
    go_enter Tryz.func53, Tryz.ntmps53
    go_wp2_with fail
    refine (unhide CK).mono ?_
    rintro e w1 ⟨rfl, hb1⟩
    have HB1 := hide ((unhide HB).trans (hb1.mono (unhide HB).size))
    clear CK hb1 HB
    go_wp2
    go_ret
    exact ⟨rfl, unhide HB1⟩
  | false =>
    rw [Bool.not_false, Bool.true_and]
    go_enter Tryz.func53, Tryz.ntmps53
    go_wp2_with fail
    refine (unhide CK).mono ?_
    rintro e w1 ⟨rfl, hb1⟩
    have HB1 := hide ((unhide HB).trans (hb1.mono (unhide HB).size))
    clear CK hb1 HB
    go_wp2
    go_ret
    exact ⟨rfl, unhide HB1⟩
theorem all_take {l : List ByteArray} {f : ByteArray → Bool} {k : Nat} (h : (l.take k).all f = true) (hk : k < l.length) (hf : f l[k] = true) : (l.take (k + 1)).all f = true := by
  rw [List.take_succ_eq_append_getElem hk, List.all_append, h]
  simp [hf]
theorem all_fails {l : List ByteArray} {f : ByteArray → Bool} {k : Nat} (hk : k < l.length) (hf : f l[k] = false) : l.all f = false := by
  rw [List.all_eq_false]
  exact ⟨l[k], List.getElem_mem _, by rw [hf]; simp⟩
set_option maxHeartbeats 2000000 in
set_option maxRecDepth 100000 in
theorem isCond_any (ad aa : Option Addr) (cap ca : Nat) (xs : List Pt) (ah : List ByteArray) (w : World) (hc : PtsAt w ad xs) (hn : NmsAt w aa ah) (hl : ah.length ≤ 9223372036854775807) (hT : TbE w) (hfit : ∀ p ∈ xs, p.fit) :
    Calls Tryz.prog 55 #[.slice ad xs.length cap, .slice aa ah.length ca] w fun e w' => e = .returned (.bool (cdOk xs ah)) ∧ Below w.heap.size w w' := by
  have CK := hide (check_any ad cap xs w hc hT hfit)
  unfold cdOk
  by_cases h3 : ckK xs = 3
  · have h0 : (if ckK xs = 0 then (110 : Int) else 0) = 0 := if_neg (by rw [h3]; decide)
    have ST := hide (fun W (hb : Below w.heap.size w W) => stages_any ad cap xs W (hc.kp (Kp.ofBelow hb)) (hT.blw hb) hfit)
    rw [h0] at ST CK
    rw [h3] at CK
    rw [decide_eq_true h3, Bool.true_and]
    have hsl := stgS_len xs
    have HN := hide hn
    clear h0 h3 hc hT hfit hn
    generalize stgS xs = L at *
    have HAT := hide (fun k (hk : k < L.length) (h : (L.take k).all (hasN ah) = true) (hf : hasN ah L[k] = true) => all_take h hk hf)
    have HAF := hide (fun k (hk : k < L.length) (hf : hasN ah L[k] = false) => all_fails (f := hasN ah) hk hf)
    have HAE : Hid ((L.take L.length).all (hasN ah) = true → L.all (hasN ah) = true) := hide (fun h => by rwa [List.take_length] at h)
    obtain ⟨R, hR⟩ : ∃ R, L.all (hasN ah) = R := ⟨_, rfl⟩
    rw [hR] at HAF HAE ⊢
    clear hR
    go_enter Tryz.func55, Tryz.ntmps55
    go_wp2_with fail
    refine (unhide CK).mono ?_
    rintro e w1 ⟨rfl, hb1⟩
    have ST1 := hide (unhide ST w1 hb1)
    have HB1 := hide hb1
    clear CK hb1 ST
    go_wp2_with fail
    refine (unhide ST1).mono ?_
    rintro e w2 ⟨v, rfl, ho, hb2⟩
    obtain ⟨a2, c2, rfl, hn2, _⟩ := ho.at
    have HN2 := hide hn2
    have HB2 := hide ((unhide HB1).trans (hb2.mono (unhide HB1).size))
    have HNA := hide ((unhide HN).kp (Kp.ofBelow (unhide HB2)) (by simp))
    obtain ⟨n, hn⟩ : ∃ n, L.length = n := ⟨_, rfl⟩
    have HNL := hide hn
    rw [hn] at hsl HAE ⊢
    clear ST1 hb2 ho hn2 HB1 HN hn
    go_wp2_with fail
    go_loopw [25] (fun i wr => ∃ k : Nat, k ≤ n ∧ i = .int .i64 (k : Int) ∧ wr = w2 ∧ Hid ((L.take k).all (hasN ah) = true)) (fun i _ => n - (intOf i).toNat)
    case atStart => exact ⟨0, Nat.zero_le _, rfl, rfl, hide (by simp)⟩
    case round =>
      obtain ⟨k, hk, rfl, hwr, HK⟩ := hrel
      subst hwr
      by_cases hlt : k < n
      · have hkl : k < L.length := by rw [unhide HNL]; exact hlt
        have hne : L ≠ [] := fun e => by rw [e] at hkl; simp at hkl
        obtain ⟨b, off, rfl, _, hc2⟩ := unhide HN2 hne
        have cj := hc2 k hkl
        have hli : (k : Int) < (n : Int) := by omega
        have HX := hide (unhide HAT k hkl (unhide HK))
        have HY := hide (unhide HAF k hkl)
        clear hc2 hne HAT HAF HAE HK
        generalize L[k] = s at *
        have CT := hide (contains_any aa ca ah s _ hl (unhide HNA))
        cases hH : hasN ah s with
        | true =>
          rw [hH] at CT
          have HX2 := hide (unhide HX hH)
          clear HX HY hH
          go_wp2_with fail
          refine (unhide CT).mono ?_
          rintro e w4 ⟨rfl, rfl⟩
          clear CT
          go_wp2
          go_roundw
          case rel => exact ⟨k + 1, by omega, by go_num, by first | trivial | rfl, HX2⟩
          case measure => simp [intOf]; omega
        | false =>
          rw [hH] at CT
          obtain rfl := unhide HY hH
          clear HX HY hH
          go_wp2_with fail
          refine (unhide CT).mono ?_
          rintro e w4 ⟨rfl, rfl⟩
          clear CT
          go_wp2
          go_ret
          exact ⟨rfl, unhide HB2⟩
      · obtain rfl : k = n := by omega
        obtain rfl := unhide HAE (unhide HK)
        clear HAT HAF HAE
        go_wp2
        go_ret
        exact ⟨rfl, unhide HB2⟩
  · rw [decide_eq_false h3, Bool.false_and]
    have g3 : (ckK xs == 3) = false := beq_eq_false_iff_ne.2 h3
    clear hc hT hfit hn h3
    generalize (if ckK xs = 0 then (110 : Int) else 0) = EC at *
    generalize ckK xs = ck at *
    go_enter Tryz.func55, Tryz.ntmps55
    go_wp2_with fail
    refine (unhide CK).mono ?_
    rintro e w1 ⟨rfl, hb1⟩
    clear CK
    go_wp2
    go_ret
    exact ⟨rfl, hb1⟩
/-- A stage as a value, its condition lying somewhere. -/
def stV (s : Stg) (ad : Option Addr) (c : Nat) : Array Value := #[.string s.nm, .int .i64 s.hw, .bool s.mn, .slice ad s.cd.length c]
theorem box4 {w W : World} {a b c d : Value} {t : TypeId} (hk : Kp [] (w.alloc (.cells #[a, b, c, d] t)) W) : W.cell? ⟨w.heap.size, 0, none⟩ = some a ∧ W.cell? ⟨w.heap.size, 1, none⟩ = some b ∧ W.cell? ⟨w.heap.size, 3, none⟩ = some d := by
  have h := (CBox.new w #[a, b, c, d] t).kp hk (by simp)
  exact ⟨h.cell rfl, h.cell rfl, h.cell rfl⟩
set_option maxHeartbeats 2000000 in
set_option maxRecDepth 100000 in
theorem mayFollow_any (s : Stg) (ad aa : Option Addr) (c ca : Nat) (ah : List ByteArray) (w : World) (hc : PtsAt w ad s.cd) (hn : NmsAt w aa ah) (hl : ah.length ≤ 9223372036854775807) (hT : TbE w) (hfit : ∀ p ∈ s.cd, p.fit) (hs : s.nm.size ≤ 9223372036854775807) :
    Calls Tryz.prog 37 #[.agg (stV s ad c), .slice aa ah.length ca] w fun e w' => e = .returned (.bool (stOk s ah)) ∧ Below w.heap.size w w' := by
  obtain ⟨nm, hw, mn, cd⟩ := s
  unfold stV stOk
  dsimp only at *
  have k0 := Kp.alloc w (.cells #[.string nm, .int .i64 hw, .bool mn, .slice ad cd.length c] 54)
  have b0 := (Below.refl w.heap.size w).alloc (Nat.le_refl _) (.cells #[.string nm, .int .i64 hw, .bool mn, .slice ad cd.length c] 54)
  have IN := hide (isName_any nm _ (hT.alloc (.cells #[.string nm, .int .i64 hw, .bool mn, .slice ad cd.length c] 54)) hs)
  have HW : Hid (∀ W, Kp [] (w.alloc (.cells #[.string nm, .int .i64 hw, .bool mn, .slice ad cd.length c] 54)) W → (W.cell? ⟨w.heap.size, 0, none⟩ = some (.string nm) ∧ W.cell? ⟨w.heap.size, 1, none⟩ = some (.int .i64 hw) ∧ W.cell? ⟨w.heap.size, 3, none⟩ = some (.slice ad cd.length c)) ∧ Hid (Below w.heap.size w W) ∧ Hid (PtsAt W ad cd) ∧ Hid (NmsAt W aa ah) ∧ Hid (TbE W)) := hide (fun W hk => ⟨box4 hk, hide ((k0.trans hk (by simp)).below (Nat.le_refl _) (by simp)), hide ((hc.kp k0).kp hk), hide ((hn.kp k0 (by simp)).kp hk (by simp)), hide ((hT.kp k0 (by simp)).kp hk (by simp))⟩)
  have HFIT := hide hfit
  obtain ⟨v0, v1, v3⟩ := (unhide HW _ (Kp.refl _ _)).1
  obtain ⟨R, hR⟩ : ∃ R, (isSg nm && (!hasN ah nm && (hwOk hw ah.length && cdOk cd ah))) = R := ⟨_, rfl⟩
  rw [hR]
  have HR : Hid (R = (isSg nm && (!hasN ah nm && (hwOk hw ah.length && cdOk cd ah)))) := hide hR.symm
  clear k0 b0 hc hn hT hfit hs hR
  have eh : (hw == 0) = decide (hw = 0) := rfl
  have el : ((ah.length : Int) == 0) = decide (ah.length = 0) := by
    by_cases h : ah.length = 0 <;> simp [h]
  go_enter Tryz.func37, Tryz.ntmps37
  go_wp2_with fail
  refine (unhide IN).mono ?_
  rintro e w1 ⟨rfl, hb1⟩
  have HK1 := hide (Kp.ofBelow hb1)
  obtain ⟨⟨u0, u1, u3⟩, HB1, HP1, HN1, HT1⟩ := unhide HW w1 (unhide HK1)
  clear IN hb1 v0 v1 v3
  have CT := hide (contains_any aa ca ah nm w1 hl (unhide HN1))
  have IC := hide (isCond_any ad aa c ca cd ah w1 (unhide HP1) (unhide HN1) hl (unhide HT1) (unhide HFIT))
  clear HN1 HP1 HT1 HFIT HW HK1
  generalize isSg nm = SN at *
  generalize hasN ah nm = HH at *
  generalize cdOk cd ah = CD at *
  cases SN with
  | false =>
    obtain rfl : R = false := by rw [unhide HR]; rfl
    clear HR
    go_wp2
    go_ret
    exact ⟨rfl, unhide HB1⟩
  | true =>
    cases HH with
    | true =>
      obtain rfl : R = false := by rw [unhide HR]; rfl
      clear HR
      go_wp2_with fail
      refine (unhide CT).mono ?_
      rintro e w2 ⟨rfl, rfl⟩
      clear CT
      go_wp2
      go_ret
      exact ⟨rfl, unhide HB1⟩
    | false =>
      unfold hwOk at HR
      by_cases h0 : hw < 0
      · have gd : decide (0 ≤ hw) = false := decide_eq_false (by omega)
        obtain rfl : R = false := by rw [unhide HR, gd]; rfl
        have g0 : (hw < 0) = True := by simp; omega
        clear gd IC HR
        go_wp2_with fail
        refine (unhide CT).mono ?_
        rintro e w2 ⟨rfl, rfl⟩
        clear CT
        go_wp2
        go_ret
        exact ⟨rfl, unhide HB1⟩
      · have gd : decide (0 ≤ hw) = true := decide_eq_true (by omega)
        have g0 : (hw < 0) = False := by simp; omega
        by_cases h3 : 3 < hw
        · have gd3 : decide (hw ≤ 3) = false := decide_eq_false (by omega)
          obtain rfl : R = false := by rw [unhide HR, gd, gd3]; rfl
          have g3 : ((3 : Int) < hw) = True := by simp; omega
          clear gd gd3 IC HR
          go_wp2_with fail
          refine (unhide CT).mono ?_
          rintro e w2 ⟨rfl, rfl⟩
          clear CT
          go_wp2
          go_ret
          exact ⟨rfl, unhide HB1⟩
        · have gd3 : decide (hw ≤ 3) = true := decide_eq_true (by omega)
          have g3 : ((3 : Int) < hw) = False := by simp; omega
          have HR2 : Hid (R = ((decide (hw = 0) == decide (ah.length = 0)) && CD)) := hide (by rw [unhide HR, gd, gd3]; rfl)
          clear gd gd3 h0 h3 HR
          generalize decide (hw = 0) = X at *
          generalize decide (ah.length = 0) = Y at *
          by_cases hXY : X = Y
          · subst hXY
            obtain rfl : R = CD := by rw [unhide HR2]; cases X <;> rfl
            clear HR2
            cases X
            all_goals
              go_wp2_with fail
              refine (unhide CT).mono ?_
              rintro e w2 ⟨rfl, rfl⟩
              clear CT
              go_wp2_with fail
              refine (unhide IC).mono ?_
              rintro e w3 ⟨rfl, hb3⟩
              have HB3 := hide ((unhide HB1).trans (hb3.mono (unhide HB1).size))
              clear IC hb3
              go_wp2
              go_ret
              exact ⟨rfl, unhide HB3⟩
          · obtain rfl : R = false := by rw [unhide HR2]; revert hXY; cases X <;> cases Y <;> simp
            clear HR2 IC
            cases X <;> cases Y
            all_goals
              first
                | exact absurd rfl hXY
                | (clear hXY
                   go_wp2_with fail
                   refine (unhide CT).mono ?_
                   rintro e w2 ⟨rfl, rfl⟩
                   clear CT
                   go_wp2
                   go_ret
                   try exact ⟨rfl, unhide HB1⟩)
end Go.Proofs.YtjijhefmbmdbeaaGreatDoor
