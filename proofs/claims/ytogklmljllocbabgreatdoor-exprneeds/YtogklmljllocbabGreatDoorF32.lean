/-
  parse: tokens that end with an end are read as the plain reader has it.
  What reading a text leaves: rows of tokens, of parts, and faults.
-/
import Derived.Test.YtogklmljllocbabGreatDoorF31
namespace Go.Proofs.YtogklmljllocbabGreatDoor
open Go.RowKit Go.Shelf

theorem info_rd : (Tryz.prog.info? 226).map (·.size) = some 75 := by kernel_rfl
/-- A row of parts of the call's own. -/
def OwnsP (B : Nat) (w : World) (v : Value) (l : List Pt) : Prop := w.ownsRow B 89 5 v l.length (l.flatMap ptE)
/-- What parse tells of tokens. -/
def PsT (l : List Tk) (B : Nat) (P : PR) (e : Ending) (w' : World) : Prop := match P with
  | .bad q => e = .returned (.tuple #[.slice none 0 0, .int .i64 0, .agg #[.int .i64 (hdPl q), .int .i64 110]])
  | .good x q => if ckK x = 0 then e = .returned (.tuple #[.slice none 0 0, .int .i64 0, .agg #[.int .i64 0, .int .i64 110]]) else ∃ v k, e = .returned (.tuple #[v, .int .i64 ((k : Nat) : Int), .agg #[.int .i64 0, .int .i64 0]]) ∧ k ≤ l.length ∧ l.drop k = q ∧ OwnsP B w' v x
theorem PsT.bad {l : List Tk} {B : Nat} {P : PR} {t : Tk} {r : List Tk} {w' : World} (h : P = .bad (t :: r)) : PsT l B P (.returned (.tuple #[.slice none 0 0, .int .i64 0, .agg #[.int .i64 t.pl, .int .i64 110]])) w' := by subst h; rfl
theorem PsT.no {l : List Tk} {B : Nat} {P : PR} {x : List Pt} {q : List Tk} {w' : World} (h : P = .good x q) (h0 : ckK x = 0) : PsT l B P (.returned (.tuple #[.slice none 0 0, .int .i64 0, .agg #[.int .i64 0, .int .i64 110]])) w' := by
  subst h
  unfold PsT
  dsimp only
  rw [if_pos h0]
theorem PsT.yes {l : List Tk} {B : Nat} {P : PR} {x : List Pt} {q : List Tk} {w' : World} {v : Value} {k : Nat} (h : P = .good x q) (h0 : ckK x ≠ 0) (hk : k ≤ l.length) (hq : l.drop k = q) (ho : OwnsP B w' v x) : PsT l B P (.returned (.tuple #[v, .int .i64 (k : Int), .agg #[.int .i64 0, .int .i64 0]])) w' := by
  subst h
  unfold PsT
  dsimp only
  rw [if_neg h0]
  exact ⟨v, k, rfl, hk, hq, ho⟩
theorem TksLow.mono {B B' : Nat} {W : World} {tk : Value} {l : List Tk} (h : TksLow B W tk l) (hB : B ≤ B') : TksLow B' W tk l := by
  obtain ⟨b, off, cap, e, hlt, hc⟩ := h
  exact ⟨b, off, cap, e, by omega, hc⟩
theorem OpsLow.mono {B B' : Nat} {W : World} {ov : Value} {os : List Int} (h : OpsLow B W ov os) (hB : B ≤ B') : OpsLow B' W ov os := by
  rcases h with h | ⟨b, e, hlt, hc⟩
  · exact Or.inl h
  · exact Or.inr ⟨b, e, by omega, hc⟩
theorem LvsLow.mono {B B' : Nat} {W : World} {lv : Value} (h : LvsLow B W lv) (hB : B ≤ B') : LvsLow B' W lv := by
  obtain ⟨b, e, hlt, hc⟩ := h
  refine ⟨b, e, by omega, fun n hn => ?_⟩
  obtain ⟨c0, ov, c1, c2⟩ := hc n hn
  exact ⟨c0, ov, c1, c2.mono hB⟩
theorem OwnsP.mono {B B' : Nat} {w : World} {v : Value} {l : List Pt} (h : OwnsP B w v l) (hB : B' ≤ B) : OwnsP B' w v l := by
  obtain ⟨h1, h2 | ⟨g, cap, cur, e, hg, r⟩⟩ := h
  · exact ⟨h1, Or.inl h2⟩
  · exact ⟨h1, Or.inr ⟨g, cap, cur, e, by omega, r⟩⟩
theorem OwnsP.kp {B : Nat} {w w' : World} {v : Value} {l : List Pt} (h : OwnsP B w v l) (hk : Kp [] w w') : OwnsP B w' v l := row_kp h hk (by simp)
theorem OwnsP.nil (B : Nat) (w : World) : OwnsP B w (.slice none 0 0) [] := World.ownsRow_nil _ _ _ _
theorem OwnsP.at {B : Nat} {w : World} {v : Value} {l : List Pt} (h : OwnsP B w v l) : ∃ ad cp, v = .slice ad l.length cp ∧ PtsAt w ad l ∧ l.length ≤ cp := by
  obtain ⟨_, ⟨rfl, h0⟩ | ⟨g, cp, cur, rfl, _, _, hcap, _⟩⟩ := id h
  · refine ⟨none, 0, by rw [h0], fun hne => ?_, by omega⟩
    exact absurd (List.eq_nil_of_length_eq_zero h0) hne
  · have hl := World.ownsRow.lt h g rfl
    refine ⟨_, _, rfl, fun _ => ⟨g, 0, rfl, hl.2, fun i hi => ?_⟩, hcap⟩
    have c := fun j (hj : j < 5) => own_cell ptE_len h i j hi hj
    simp only [Nat.zero_add]
    exact ⟨c 0 (by omega), c 1 (by omega), c 2 (by omega), c 3 (by omega), c 4 (by omega)⟩
/-- A fault's cells, written. -/
theorem FBox.two {b : Nat} {w : World} (h : FBox b w) (x y : Value) : CBox b #[x, y] 47 ((w.setCell ⟨b, 0, none⟩ x).setCell ⟨b, 1, none⟩ y) := CBox.set (CBox.set h 0 x) 1 y
theorem two_cells {b : Nat} {w : World} {x y : Value} (h : CBox b #[x, y] 47 w) : w.cell? ⟨b, 0, none⟩ = some x ∧ w.cell? ⟨b, 1, none⟩ = some y := ⟨h.cell rfl, h.cell rfl⟩
theorem two_below {b B : Nat} {w w' : World} (h : Below B w w') (hB : B ≤ b) (x y : Value) : Below B w (((w'.setCell ⟨b, 0, none⟩ x).setCell ⟨b, 1, none⟩ y)) := (h.setCell (p := ⟨b, 0, none⟩) hB _).setCell (p := ⟨b, 1, none⟩) hB _
/-- The reader as it is built. -/
theorem rd_built (lv tk : Value) : ((Array.foldl (fun cs x => cs.setIfInBounds (1 + x.snd) x.fst) (Tryz.zeroCells226.setIfInBounds 0 lv) opsV.zipIdx 0 opsV.size).setIfInBounds 71 tk) = rdC lv tk 0 0 (.slice none 0 0) := by kernel_rfl
theorem rd_size (lv : Value) : (Array.foldl (fun cs x => cs.setIfInBounds (1 + x.snd) x.fst) (Tryz.zeroCells226.setIfInBounds 0 lv) opsV.zipIdx 0 opsV.size).size = 75 := by kernel_rfl
theorem rdC_one (lv tk : Value) (h1 : lv.oneCell' = true) (h2 : tk.oneCell' = true) : (rdC lv tk 0 0 (.slice none 0 0)).all (·.oneCell') = true := by
  unfold rdC
  rw [Array.all_append, Array.all_append, opsV_one]
  simp [h1, h2]
  exact ⟨rfl, rfl⟩
theorem rdC_size (lv tk : Value) : (rdC lv tk 0 0 (.slice none 0 0)).size = 75 := by
  unfold rdC
  rw [Array.size_append, Array.size_append, opsV_size]
  rfl
theorem rd_store (w : World) (lv tk : Value) (h1 : lv.oneCell' = true) (h2 : tk.oneCell' = true) : (storeCells ⟨w.heap.size, 0, none⟩ ((Array.foldl (fun cs x => cs.setIfInBounds (1 + x.snd) x.fst) (Tryz.zeroCells226.setIfInBounds 0 lv) opsV.zipIdx 0 opsV.size).toList.set 71 tk) 0).run Tryz.prog (w.alloc (.cells Tryz.zeroCells226 226)) = .ok () (w.alloc (.cells (rdC lv tk 0 0 (.slice none 0 0)) 226)) := by
  rw [← Array.toList_setIfInBounds, rd_built]
  exact run_storeCells_new w 226 Tryz.zeroCells226 (rdC lv tk 0 0 (.slice none 0 0)) (by rw [rdC_size]; exact info_rd) (by rw [rdC_size]; kernel_rfl) (rdC_one lv tk h1 h2)
attribute [local irreducible] opsV
set_option maxHeartbeats 4000000 in
set_option maxRecDepth 100000 in
theorem parse_any (tk : Value) (l : List Tk) (w : World) (ht : TksLow w.heap.size w tk l) (hT : TbE w) (hl : l.length ≤ 100000) (hok : ∀ t ∈ l, t.s.size ≤ 140737488351232) (hE : Endd l) (hk : ∀ t ∈ l, t.ok) :
    Calls Tryz.prog 81 #[tk] w fun e w' => PsT l w.heap.size (psR l) e w' ∧ Below w.heap.size w w' := by
  obtain ⟨tb, tf, tc, rfl, htb, htc⟩ := id ht
  clear htb htc
  have HT := hide ht
  have HTb := hide hT
  have HE := hide hE
  have HK := hide hk
  have HOK := hide hok
  clear ht hT hE hk hok
  go_enter Tryz.func81, Tryz.ntmps81
  go_wp2_with fail
  refine (grammar_any _).mono ?_
  rintro e w1 ⟨lv, rfl, hlv, hk1⟩
  obtain ⟨lb, rfl, hlb, hlc⟩ := id hlv
  clear hlb hlc
  have HLV := hide hlv
  have HK1 := hide hk1
  clear hlv hk1
  go_wp2_with fail
  refine (operations_any _).mono ?_
  rintro e w2 ⟨rfl, hk2⟩
  have HK2 := hide hk2
  clear hk2
  have rs := rd_size (.slice (some ⟨lb, 0, none⟩) 7 7)
  have st := rd_store w2 (.slice (some ⟨lb, 0, none⟩) 7 7) (.slice (some ⟨tb, tf, none⟩) l.length tc) rfl rfl
  have hs70 := opsV_size
  rw [opsV_size] at rs st
  go_wp2_with fail
  clear rs st
  have hb0 : Below w.heap.size w w2 := by
    have a0 : Below w.heap.size w (w.alloc (.cells #[.int .i64 0, .int .i64 0] 47)) := (Below.refl _ _).alloc (Nat.le_refl _) _
    have a1 := (unhide HK1).below (B := w.heap.size) (by simp) (by simp)
    have a2 := (unhide HK2).below (B := w.heap.size) (by have := (unhide HK1).size; simp at this; omega) (by simp)
    exact (a0.trans a1).trans a2
  have fb0 : FBox w.heap.size w2 := CBox.kp (CBox.kp (CBox.new w _ _) (unhide HK1) (by simp)) (unhide HK2) (by simp)
  have hw2 := hb0.size
  have hB3 : Below w2.heap.size w2 (w2.alloc (.cells (rdC (.slice (some ⟨lb, 0, none⟩) 7 7) (.slice (some ⟨tb, tf, none⟩) l.length tc) 0 0 (.slice none 0 0)) 226)) := (Below.refl _ _).alloc (Nat.le_refl _) _
  have hRd : Rd w2.heap.size (.slice (some ⟨lb, 0, none⟩) 7 7) (.slice (some ⟨tb, tf, none⟩) l.length tc) l 0 0 [] (w2.alloc (.cells (rdC (.slice (some ⟨lb, 0, none⟩) 7 7) (.slice (some ⟨tb, tf, none⟩) l.length tc) 0 0 (.slice none 0 0)) 226)) := by
    have t1 : TbE w2 := (unhide HTb).below hb0 (unhide HTb).low
    have t2 : TksLow w2.heap.size w2 (.slice (some ⟨tb, tf, none⟩) l.length tc) l := ((unhide HT).below hb0).mono hw2
    have t3 : LvsLow w2.heap.size w2 (.slice (some ⟨lb, 0, none⟩) 7 7) := ((unhide HLV).below ((unhide HK2).below (Nat.le_refl _) (by simp))).mono (unhide HK2).size
    exact ⟨⟨t2.below hB3, t3.below hB3, t1.alloc _, t1.low, hl, unhide HOK⟩, _, CBox.new w2 _ _, World.ownsRow_nil _ _ _ _⟩
  have RD := rd_any (mRd 0 l) w2.heap.size (.slice (some ⟨lb, 0, none⟩) 7 7) (.slice (some ⟨tb, tf, none⟩) l.length tc) l 0 0 [] _ 0 hRd (by omega) (by rw [List.drop_zero]; exact unhide HE) (by omega) (by rw [List.drop_zero]; simp; omega) (by rw [List.drop_zero]; exact Nat.le_refl _)
  rw [List.drop_zero] at RD
  have HRD := hide RD
  clear RD
  refine (unhide HRD).mono ?_
  intro e w3 hR
  clear HRD hRd
  have hfit := pRd_fits (mRd 0 l) 0 0 [] l (unhide HK) (fun p hp => by cases hp)
  have hend := (pRd_ok (mRd 0 l) 0 0 [] l (unhide HE)).1
  have hP0 : psR l = pRd (mRd 0 l) 0 0 [] l := rfl
  rw [← hP0] at hR hfit hend
  clear hP0
  cases hP : psR l with
  | bad q =>
    rw [hP] at hR hend
    obtain ⟨rfl, ⟨k, ps', hq, hkl, hr⟩, hb3⟩ := hR
    have hb : Below w.heap.size w w3 := hb0.trans ((hB3.trans hb3).mono hw2)
    have fb3 := fb0.below (hB3.trans hb3) fb0.lt
    cases q with
    | nil => exact absurd rfl hend.1.ne
    | cons t r =>
      obtain ⟨hk, hlt, _⟩ := drop_at hq
      obtain ⟨b', off', cap', e1, hlt2, hc⟩ := hr.env.tks
      cases e1
      obtain ⟨_, _, _, c3⟩ := hc k hk
      rw [hlt] at c3
      obtain ⟨c72, _, _, _⟩ := hr.cells
      obtain ⟨f0, f1, fz0, fz1⟩ := fb3.cells
      have hlf := fb3.lt
      have HF3 := hide fb3
      have HPs := hide hP
      have HPB : Hid (∀ W, PsT l w.heap.size (psR l) (.returned (.tuple #[.slice none 0 0, .int .i64 0, .agg #[.int .i64 t.pl, .int .i64 110]])) W) := hide (fun W => PsT.bad (unhide HPs))
      have HB := hide hb
      clear hr hc hlt hq hend hfit hP hb hb3 hB3 hb0 fb0 fb3 HT HTb HE HK HOK HLV HK1 HK2
      generalize Value.agg (Array.setIfInBounds _ 71 _) = AG
      obtain ⟨tkd, ts, tn, tpl⟩ := t
      dsimp only at c3 HPB
      go_wp2
      go_region
      go_wp2
      have q2 : CBox w.heap.size #[.int .i64 tpl, .int .i64 110] 47 (((w3.setCell ⟨w.heap.size, 0, none⟩ (.int .i64 tpl)).setCell ⟨w.heap.size, 1, none⟩ (.int .i64 110)).drew) := (unhide HF3).two _ _
      obtain ⟨z0, z1⟩ := two_cells q2
      exact bodyPost_ret (v := .tuple #[.slice none 0 0, .int .i64 0, .agg #[.int .i64 tpl, .int .i64 110]]) (by simp [results, Tryz.results81, go_sem, z0, z1]) rfl ⟨unhide HPB _, (two_below (unhide HB) (Nat.le_refl _) _ _).drew⟩
  | good x q =>
    rw [hP] at hR hend hfit
    obtain ⟨rfl, ⟨k, hq, hkl, hr⟩, hb3⟩ := hR
    have hb : Below w.heap.size w w3 := hb0.trans ((hB3.trans hb3).mono hw2)
    have fb3 := fb0.below (hB3.trans hb3) fb0.lt
    rw [List.nil_append] at hr
    obtain ⟨pv, hbox, hown⟩ := hr.box
    have hown' : OwnsP (w2.heap.size + 1) w3 pv x := hown
    obtain ⟨ad, cp, rfl, hat, hcp⟩ := hown'.at
    have CK := check_any ad cp x w3 hat hr.env.tab (fun p hp => (hfit p hp).2.2.2.1)
    have c72 := hbox.cell (rdC_72 _ _ _ _ _)
    have c74 := hbox.cell (rdC_74 _ _ _ _ _)
    have HL : Hid (∀ w4, Below w3.heap.size w3 w4 → (w4.cell? ⟨w2.heap.size, 72, none⟩ = some (.int .i64 (k : Int)) ∧ w4.cell? ⟨w2.heap.size, 74, none⟩ = some (.slice ad x.length cp)) ∧ FBox w.heap.size w4 ∧ Hid (OwnsP w.heap.size w4 (.slice ad x.length cp) x) ∧ Hid (Below w.heap.size w w4)) := hide (fun w4 hb4 => ⟨⟨(Kp.ofBelow hb4).cell c72 (by simp), (Kp.ofBelow hb4).cell c74 (by simp)⟩, fb3.below hb4 fb3.lt, hide ((hown'.kp (Kp.ofBelow hb4)).mono (by omega)), hide (hb.trans (hb4.mono hb.size))⟩)
    have HCK := hide CK
    have HPs := hide hP
    clear hr hbox hown hown' hat hend hP hb hb3 hB3 hb0 fb0 fb3 HT HTb HE HK HOK HLV HK1 HK2 CK hfit c72
    generalize Value.agg (Array.setIfInBounds _ 71 _) = AG
    by_cases h0 : ckK x = 0
    · have HPB : Hid (∀ W, PsT l w.heap.size (psR l) (.returned (.tuple #[.slice none 0 0, .int .i64 0, .agg #[.int .i64 0, .int .i64 110]])) W) := hide (fun W => PsT.no (unhide HPs) h0)
      rw [h0, if_pos rfl] at HCK
      clear h0
      go_wp2_with fail
      refine (unhide HCK).mono ?_
      rintro e w4 ⟨rfl, hb4⟩
      obtain ⟨⟨d72, d74⟩, fb4, HO, HB⟩ := unhide HL w4 hb4
      obtain ⟨f0, f1, fz0, fz1⟩ := fb4.cells
      have HF4 := hide fb4
      clear HCK HL hb4 fb4 c74
      go_wp2
      have q2 : CBox w.heap.size #[.int .i64 0, .int .i64 110] 47 (((w4.setCell ⟨w.heap.size, 0, none⟩ (.int .i64 0)).setCell ⟨w.heap.size, 1, none⟩ (.int .i64 110))) := (unhide HF4).two _ _
      obtain ⟨z0, z1⟩ := two_cells q2
      exact bodyPost_ret (v := .tuple #[.slice none 0 0, .int .i64 0, .agg #[.int .i64 0, .int .i64 110]]) (by simp [results, Tryz.results81, go_sem, z0, z1]) rfl ⟨unhide HPB _, two_below (unhide HB) (Nat.le_refl _) _ _⟩
    · have HPB : Hid (∀ W, OwnsP w.heap.size W (.slice ad x.length cp) x → PsT l w.heap.size (psR l) (.returned (.tuple #[.slice ad x.length cp, .int .i64 (k : Int), .agg #[.int .i64 0, .int .i64 0]])) W) := hide (fun W ho => PsT.yes (unhide HPs) h0 hkl hq ho)
      rw [if_neg h0] at HCK
      generalize ckK x = ck at *
      clear h0
      go_wp2_with fail
      refine (unhide HCK).mono ?_
      rintro e w4 ⟨rfl, hb4⟩
      obtain ⟨⟨d72, d74⟩, fb4, HO, HB⟩ := unhide HL w4 hb4
      obtain ⟨f0, f1, fz0, fz1⟩ := fb4.cells
      have HF4 := hide fb4
      clear HCK HL hb4 fb4 c74
      go_wp2
      have HO2 : Hid (OwnsP w.heap.size (((w4.setCell ⟨w.heap.size, 0, none⟩ (.int .i64 0)).setCell ⟨w.heap.size, 1, none⟩ (.int .i64 0)).drew) (.slice ad x.length cp) x) := hide (row_kp (F := [w.heap.size]) (W' := (w4.setCell ⟨w.heap.size, 0, none⟩ (.int .i64 0)).setCell ⟨w.heap.size, 1, none⟩ (.int .i64 0)) (unhide HO) ((Kp.set w4 w.heap.size 0 (.int .i64 0)).trans (Kp.set (w4.setCell ⟨w.heap.size, 0, none⟩ (.int .i64 0)) w.heap.size 1 (.int .i64 0)) (by simp)) (fun g hg => by have := row_ne (unhide HO) (unhide HF4) (by decide); rw [hg] at this; simp at this ⊢; exact this))
      go_region
      go_wp2
      have q2 : CBox w.heap.size #[.int .i64 0, .int .i64 0] 47 (((w4.setCell ⟨w.heap.size, 0, none⟩ (.int .i64 0)).setCell ⟨w.heap.size, 1, none⟩ (.int .i64 0)).drew) := (unhide HF4).two _ _
      obtain ⟨z0, z1⟩ := two_cells q2
      exact bodyPost_ret (v := .tuple #[.slice ad x.length cp, .int .i64 (k : Int), .agg #[.int .i64 0, .int .i64 0]]) (by simp [results, Tryz.results81, go_sem, z0, z1]) rfl ⟨unhide HPB _ (unhide HO2), (two_below (unhide HB) (Nat.le_refl _) _ _).drew⟩
end Go.Proofs.YtogklmljllocbabGreatDoor
namespace Go.Proofs.YtogklmljllocbabGreatDoor
open Go.RowKit Go.Shelf

theorem OwnsK.low {B : Nat} {w : World} {v : Value} {l : List Tk} (h : OwnsK B w v l) (hl : l ≠ []) : TksLow w.heap.size w v l := by
  obtain ⟨ad, cp, rfl, ha, _⟩ := h.at
  obtain ⟨b, off, rfl, hlt, hc⟩ := ha hl
  exact ⟨b, off, cp, rfl, hlt, hc⟩
/-- What Read tells. -/
def RdT (B : Nat) (o : RO) (e : Ending) (w' : World) : Prop := ∃ v, e = .returned (.tuple #[v, .agg #[.int .i64 o.at_, .int .i64 o.c]]) ∧ OwnsP B w' v o.x
theorem RdT.nil {B : Nat} {o : RO} {a c : Int} {w' : World} (h : o = ⟨[], a, c⟩) : RdT B o (.returned (.tuple #[.slice none 0 0, .agg #[.int .i64 a, .int .i64 c]])) w' := by
  subst h
  exact ⟨_, rfl, OwnsP.nil _ _⟩
theorem RdT.parts {B : Nat} {o : RO} {x : List Pt} {v : Value} {w' : World} (h : o = ⟨x, 0, 0⟩) (ho : OwnsP B w' v x) : RdT B o (.returned (.tuple #[v, .agg #[.int .i64 0, .int .i64 0]])) w' := by
  subst h
  exact ⟨v, rfl, ho⟩
theorem tk_sz (s : ByteArray) (ts : List Tk) (h : tsR s = .good ts) : ∀ t ∈ ts ++ [endZ s.size], t.s.size ≤ 140737488351232 := by
  rcases tsR_code s with ⟨ts', h1, h2, _⟩ | ⟨_, hc⟩
  · rw [h] at h1
    cases h1
    intro t ht
    rcases List.mem_append.1 ht with h1 | h1
    · have := ((wrOk_iff t).1 ((toks_ok _ 0 0 ts h2 (by omega)).2 t h1)).1
      omega
    · simp only [List.mem_singleton] at h1
      subst h1
      have : (endZ s.size).s.size = 0 := rfl
      omega
  · rw [h] at hc
    exact absurd rfl hc
/-- Two faults beside one another: one is written. -/
theorem rd_flt {a b : Nat} {w : World} (ha : FBox a w) (hb : FBox b w) (hne : a ≠ b) (x y : Value) : (((w.setCell ⟨b, 0, none⟩ x).setCell ⟨b, 1, none⟩ y).cell? ⟨b, 0, none⟩ = some x ∧ ((w.setCell ⟨b, 0, none⟩ x).setCell ⟨b, 1, none⟩ y).cell? ⟨b, 1, none⟩ = some y) ∧ FBox a ((w.setCell ⟨b, 0, none⟩ x).setCell ⟨b, 1, none⟩ y) :=
  ⟨two_cells (hb.two x y), CBox.kp (CBox.kp ha (Kp.set _ _ _ _) (by simpa using hne)) (Kp.set _ _ _ _) (by simpa using hne)⟩
/-- Writing a fault touches no row of parts. -/
theorem OwnsP.flt {B b : Nat} {w : World} {v : Value} {l : List Pt} (h : OwnsP B w v l) (hb : FBox b w) (x y : Value) : OwnsP B ((w.setCell ⟨b, 0, none⟩ x).setCell ⟨b, 1, none⟩ y) v l := by
  refine row_kp (F := [b]) h ((Kp.set w b 0 x).trans (Kp.set (w.setCell ⟨b, 0, none⟩ x) b 1 y) (by simp)) (fun g hg => ?_)
  have := row_ne h hb (by decide)
  rw [hg] at this
  simpa using this
end Go.Proofs.YtogklmljllocbabGreatDoor
