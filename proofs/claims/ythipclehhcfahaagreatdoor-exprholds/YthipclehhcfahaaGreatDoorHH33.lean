/-
  The document's reckon: an operation's value, a tree's.
  The document's Value and Holds are the plain functions'.
-/
import Derived.Test.YthipclehhcfahaaGreatDoorHH32
import Derived.Test.YthipclehhcfahaaGreatDoorHH25
import Derived.Deep.QuietTactic
namespace Go.Proofs.YthipclehhcfahaaGreatDoor
open Go.RowKit Go.Shelf

set_option maxHeartbeats 4000000 in
set_option maxRecDepth 100000 in
theorem reckon_not {M : Mo} {ad an al : Option Addr} (cap cn cl : Nat) (xs : List Pt) (at_ E1 : Nat) (av : Vl) (hx : xs.length ≤ 200) (hat : at_ < xs.length) (hk : xs[at_].kd = 13) (C1 : ∀ W, RkE M ad an al xs W → Calls Tryz.prog 55 #[.slice ad xs.length cap, .int .i64 ((at_ + 1 : Nat) : Int), .agg M.e.c, .slice an M.ns.length cn, .slice al M.la.length cl] W (RkT W av E1)) (w : World) (h : RkE M ad an al xs w) :
    Calls Tryz.prog 55 #[.slice ad xs.length cap, .int .i64 (at_ : Int), .agg M.e.c, .slice an M.ns.length cn, .slice al M.la.length cl] w (RkT w ⟨0, noB, !av.t⟩ E1) := by
  obtain ⟨b, off, rfl, hbl, x0, x1, x2, x3, x4⟩ := h.pts.at at_ hat
  have hev : M.e.c = #[.string M.e.k, .string M.e.t, .int .i64 M.e.n0, .int .i64 M.e.n1, .int .i64 M.e.n2, .int .i64 M.e.n3, .string M.e.x] := rfl
  have HE := hide h
  have hli : (at_ : Int) < (xs.length : Int) := by omega
  rw [hev] at C1 ⊢
  have ha1 : ((at_ + 1 : Nat) : Int) = (at_ : Int) + 1 := by omega
  rw [ha1] at C1
  clear ha1 h
  generalize xs[at_] = p at *
  obtain ⟨pk, pn, ps, pt, pf⟩ := p
  dsimp only at *
  have HW : Hid (∀ W, Kp [] (((w.alloc (.cells #[.string M.e.k, .string M.e.t, .int .i64 M.e.n0, .int .i64 M.e.n1, .int .i64 M.e.n2, .int .i64 M.e.n3, .string M.e.x] 37)).alloc (.cells #[.int .i64 0, .string { data := #[] }, .bool false] 124)).alloc (.cells #[.int .i64 pk, .int .i64 pn, .string ps, .string pt, .int .i64 pf] 53)) W → (W.cell? ⟨w.heap.size + 1 + 1, 0, none⟩ = some (.int .i64 pk)) ∧ EBox w.heap.size M.e W ∧ w.heap.size + 1 + 1 < W.heap.size ∧ Hid (RkE M (some ⟨b, off, none⟩) an al xs W) ∧ CBox (w.heap.size + 1) #[.int .i64 0, .string { data := #[] }, .bool false] 124 W ∧ Hid (Below w.heap.size w W)) := hide (fun W hk => by
    have p2 : CBox (w.heap.size + 1 + 1) #[.int .i64 pk, .int .i64 pn, .string ps, .string pt, .int .i64 pf] 53 W := CBox.kp (vl_at w _ _ _) hk (by simp)
    have p1 : CBox (w.heap.size + 1) #[.int .i64 0, .string { data := #[] }, .bool false] 124 W := CBox.kp (mid_at w _ _ _) hk (by simp)
    have p0 : CBox w.heap.size #[.string M.e.k, .string M.e.t, .int .i64 M.e.n0, .int .i64 M.e.n1, .int .i64 M.e.n2, .int .i64 M.e.n3, .string M.e.x] 37 W := CBox.kp (CBox.kp (CBox.kp (CBox.new w _ _) (Kp.alloc _ _) (by simp)) (Kp.alloc _ _) (by simp)) hk (by simp)
    have hs := hk.size
    have k0 : Kp [] w (((w.alloc (.cells #[.string M.e.k, .string M.e.t, .int .i64 M.e.n0, .int .i64 M.e.n1, .int .i64 M.e.n2, .int .i64 M.e.n3, .string M.e.x] 37)).alloc (.cells #[.int .i64 0, .string { data := #[] }, .bool false] 124)).alloc (.cells #[.int .i64 pk, .int .i64 pn, .string ps, .string pt, .int .i64 pf] 53)) := ((Kp.alloc _ _).trans (Kp.alloc _ _) (by simp)).trans (Kp.alloc _ _) (by simp)
    exact ⟨p2.cell rfl, p0, by simp at hs; omega, hide ((unhide HE).kp (k0.trans hk (by simp))), p1, hide ((mid_all w _ _ _).trans (hk.below (by simp; omega) (by simp)))⟩)
  have HC1 := hide C1
  obtain ⟨_, _, _, HR0, _, _⟩ := unhide HW _ (Kp.refl _ _)
  have C1W := hide (unhide HC1 _ (unhide HR0))
  unfold RkT at C1W
  clear C1 HC1 HE HR0
  obtain ⟨an_, as_, at2⟩ := av
  unfold Vl.v at C1W
  dsimp only at *
  subst hk
  go_enter Tryz.func55, Tryz.ntmps55
  go_wp2_with fail
  refine (unhide C1W).mono ?_
  rintro e w3 ⟨rfl, hb3⟩
  have k3 : Kp [] (((w.alloc (.cells #[.string M.e.k, .string M.e.t, .int .i64 M.e.n0, .int .i64 M.e.n1, .int .i64 M.e.n2, .int .i64 M.e.n3, .string M.e.x] 37)).alloc (.cells #[.int .i64 0, .string { data := #[] }, .bool false] 124)).alloc (.cells #[.int .i64 13, .int .i64 pn, .string ps, .string pt, .int .i64 pf] 53)) w3 := Kp.ofBelow hb3
  obtain ⟨c0, _, hlt, _, _, _⟩ := unhide HW w3 k3
  have k4 := k3.trans (Kp.alloc w3 (.cells #[.int .i64 an_, .string as_, .bool at2] 124)) (by simp)
  obtain ⟨c0', _, _, _, rb, HB⟩ := unhide HW _ k4
  have r0 := rb.cell (i := 0) (v := .int .i64 0) rfl
  have r1 := rb.cell (i := 1) (v := .string { data := #[] }) rfl
  have r2 := rb.cell (i := 2) (v := .bool false) rfl
  have rz := rb.froz
  have HXX := hide (vl_put3 (by omega) rb (unhide HB))
  clear C1W HW hb3 k3 k4 rb HB
  go_wp2
  exact bodyPost_ret (results_row_tmp Tryz.results55 _ _ (w.heap.size + 1) 124 _ (0, 0) _ rfl (unhide HXX _ _ _).1 Tryz.underlying124 rfl info_rvl) rfl ⟨rfl, (unhide HXX _ _ _).2⟩
set_option maxHeartbeats 4000000 in
set_option maxRecDepth 100000 in
theorem reckon_two {M : Mo} {ad an al : Option Addr} (cap cn cl : Nat) (xs : List Pt) (at_ E1 E2 : Nat) (av bv : Vl) (hx : xs.length ≤ 200) (hat : at_ < xs.length) (h4 : 4 ≤ xs[at_].kd) (h12 : xs[at_].kd ≤ 12) (ht : xs[at_].kd = 9 ∨ xs[at_].kd = 10 → av.t = bv.t) (C1 : ∀ W, RkE M ad an al xs W → Calls Tryz.prog 55 #[.slice ad xs.length cap, .int .i64 ((at_ + 1 : Nat) : Int), .agg M.e.c, .slice an M.ns.length cn, .slice al M.la.length cl] W (RkT W av E1)) (C2 : ∀ W, RkE M ad an al xs W → Calls Tryz.prog 55 #[.slice ad xs.length cap, .int .i64 (E1 : Int), .agg M.e.c, .slice an M.ns.length cn, .slice al M.la.length cl] W (RkT W bv E2)) (w : World) (h : RkE M ad an al xs w) :
    Calls Tryz.prog 55 #[.slice ad xs.length cap, .int .i64 (at_ : Int), .agg M.e.c, .slice an M.ns.length cn, .slice al M.la.length cl] w (RkT w (opV xs[at_].kd av bv) E2) := by
  obtain ⟨b, off, rfl, hbl, x0, x1, x2, x3, x4⟩ := h.pts.at at_ hat
  have hev : M.e.c = #[.string M.e.k, .string M.e.t, .int .i64 M.e.n0, .int .i64 M.e.n1, .int .i64 M.e.n2, .int .i64 M.e.n3, .string M.e.x] := rfl
  have HE := hide h
  have hli : (at_ : Int) < (xs.length : Int) := by omega
  rw [hev] at C1 C2 ⊢
  have ha1 : ((at_ + 1 : Nat) : Int) = (at_ : Int) + 1 := by omega
  rw [ha1] at C1
  clear ha1 h
  generalize xs[at_] = p at *
  obtain ⟨pk, pn, ps, pt, pf⟩ := p
  dsimp only at *
  have HW : Hid (∀ W, Kp [] (((w.alloc (.cells #[.string M.e.k, .string M.e.t, .int .i64 M.e.n0, .int .i64 M.e.n1, .int .i64 M.e.n2, .int .i64 M.e.n3, .string M.e.x] 37)).alloc (.cells #[.int .i64 0, .string { data := #[] }, .bool false] 124)).alloc (.cells #[.int .i64 pk, .int .i64 pn, .string ps, .string pt, .int .i64 pf] 53)) W → (W.cell? ⟨w.heap.size + 1 + 1, 0, none⟩ = some (.int .i64 pk)) ∧ EBox w.heap.size M.e W ∧ w.heap.size + 1 + 1 < W.heap.size ∧ Hid (RkE M (some ⟨b, off, none⟩) an al xs W) ∧ CBox (w.heap.size + 1) #[.int .i64 0, .string { data := #[] }, .bool false] 124 W ∧ Hid (Below w.heap.size w W)) := hide (fun W hk => by
    have p2 : CBox (w.heap.size + 1 + 1) #[.int .i64 pk, .int .i64 pn, .string ps, .string pt, .int .i64 pf] 53 W := CBox.kp (vl_at w _ _ _) hk (by simp)
    have p1 : CBox (w.heap.size + 1) #[.int .i64 0, .string { data := #[] }, .bool false] 124 W := CBox.kp (mid_at w _ _ _) hk (by simp)
    have p0 : CBox w.heap.size #[.string M.e.k, .string M.e.t, .int .i64 M.e.n0, .int .i64 M.e.n1, .int .i64 M.e.n2, .int .i64 M.e.n3, .string M.e.x] 37 W := CBox.kp (CBox.kp (CBox.kp (CBox.new w _ _) (Kp.alloc _ _) (by simp)) (Kp.alloc _ _) (by simp)) hk (by simp)
    have hs := hk.size
    have k0 : Kp [] w (((w.alloc (.cells #[.string M.e.k, .string M.e.t, .int .i64 M.e.n0, .int .i64 M.e.n1, .int .i64 M.e.n2, .int .i64 M.e.n3, .string M.e.x] 37)).alloc (.cells #[.int .i64 0, .string { data := #[] }, .bool false] 124)).alloc (.cells #[.int .i64 pk, .int .i64 pn, .string ps, .string pt, .int .i64 pf] 53)) := ((Kp.alloc _ _).trans (Kp.alloc _ _) (by simp)).trans (Kp.alloc _ _) (by simp)
    exact ⟨p2.cell rfl, p0, by simp at hs; omega, hide ((unhide HE).kp (k0.trans hk (by simp))), p1, hide ((mid_all w _ _ _).trans (hk.below (by simp; omega) (by simp)))⟩)
  have HC1 := hide C1
  obtain ⟨_, _, _, HR0, _, _⟩ := unhide HW _ (Kp.refl _ _)
  have C1W := hide (unhide HC1 _ (unhide HR0))
  unfold RkT at C1W
  clear C1 HC1 HE HR0
  have TW := hide (fun W => rTwo_any pk h4 h12 av bv ht W)
  have HC2 := hide C2
  generalize opV pk av bv = ov at *
  obtain ⟨an_, as_, at2⟩ := av
  obtain ⟨bn_, bs_, bt2⟩ := bv
  obtain ⟨on_, os_, ot2⟩ := ov
  unfold Vl.v at C1W TW
  unfold RkT Vl.v at HC2
  dsimp only at *
  have k1 : (pk == 1) = false := beq_eq_false_iff_ne.2 (by omega)
  have k2 : (pk == 2) = false := beq_eq_false_iff_ne.2 (by omega)
  have k3 : (pk == 3) = false := beq_eq_false_iff_ne.2 (by omega)
  have k13 : (pk == 13) = false := beq_eq_false_iff_ne.2 (by omega)
  clear h4 h12 ht C2
  go_enter Tryz.func55, Tryz.ntmps55
  go_wp2_with fail
  refine (unhide C1W).mono ?_
  rintro e w3 ⟨rfl, hb3⟩
  have q3 : Kp [] (((w.alloc (.cells #[.string M.e.k, .string M.e.t, .int .i64 M.e.n0, .int .i64 M.e.n1, .int .i64 M.e.n2, .int .i64 M.e.n3, .string M.e.x] 37)).alloc (.cells #[.int .i64 0, .string { data := #[] }, .bool false] 124)).alloc (.cells #[.int .i64 pk, .int .i64 pn, .string ps, .string pt, .int .i64 pf] 53)) w3 := Kp.ofBelow hb3
  have q4 := q3.trans (Kp.alloc w3 (.cells #[.int .i64 an_, .string as_, .bool at2] 124)) (by simp)
  obtain ⟨c0, eb, hlt, HR4, _, _⟩ := unhide HW _ q4
  have ab : CBox w3.heap.size #[.int .i64 an_, .string as_, .bool at2] 124 (w3.alloc (.cells #[.int .i64 an_, .string as_, .bool at2] 124)) := CBox.new w3 _ _
  obtain ⟨v0, v1, v2, v3, v4, v5, v6⟩ := eb.cells
  have C2W := hide (unhide HC2 _ (unhide HR4))
  have HQ4 := hide q4
  have HAB := hide ab
  clear C1W hb3 q3 q4 HC2 HR4 eb ab
  go_wp2_with fail
  refine (unhide C2W).mono ?_
  rintro e w5 ⟨rfl, hb5⟩
  have q6 := ((unhide HQ4).trans (Kp.ofBelow hb5) (by simp)).trans (Kp.alloc w5 (.cells #[.int .i64 bn_, .string bs_, .bool bt2] 124)) (by simp)
  obtain ⟨d0, _, hlt6, _, _, _⟩ := unhide HW _ q6
  have ab6 := CBox.kp (CBox.kp (unhide HAB) (Kp.ofBelow hb5) (by simp)) (Kp.alloc w5 (.cells #[.int .i64 bn_, .string bs_, .bool bt2] 124)) (by simp)
  have bb6 : CBox w5.heap.size #[.int .i64 bn_, .string bs_, .bool bt2] 124 (w5.alloc (.cells #[.int .i64 bn_, .string bs_, .bool bt2] 124)) := CBox.new w5 _ _
  have a0 := ab6.cell (i := 0) (v := .int .i64 an_) rfl
  have a1 := ab6.cell (i := 1) (v := .string as_) rfl
  have a2 := ab6.cell (i := 2) (v := .bool at2) rfl
  have b0 := bb6.cell (i := 0) (v := .int .i64 bn_) rfl
  have b1 := bb6.cell (i := 1) (v := .string bs_) rfl
  have b2 := bb6.cell (i := 2) (v := .bool bt2) rfl
  have HQ6 := hide q6
  clear C2W hb5 q6 ab6 bb6 HQ4 HAB c0 v0 v1 v2 v3 v4 v5 v6
  go_wp2_with fail
  refine (unhide TW _).mono ?_
  rintro e w7 ⟨rfl, hb7⟩
  have q7 := (unhide HQ6).trans (Kp.ofBelow hb7) (by simp)
  obtain ⟨_, _, hlt7, _, rb, HB⟩ := unhide HW _ q7
  have r0 := rb.cell (i := 0) (v := .int .i64 0) rfl
  have r1 := rb.cell (i := 1) (v := .string { data := #[] }) rfl
  have r2 := rb.cell (i := 2) (v := .bool false) rfl
  have rz := rb.froz
  have HXX := hide (vl_put3 (by omega) rb (unhide HB))
  clear TW HW hb7 q7 rb HB HQ6
  go_wp2
  exact bodyPost_ret (results_row_tmp Tryz.results55 _ _ (w.heap.size + 1) 124 _ (0, 0) _ rfl (unhide HXX _ _ _).1 Tryz.underlying124 rfl info_rvl) rfl ⟨rfl, (unhide HXX _ _ _).2⟩
end Go.Proofs.YthipclehhcfahaaGreatDoor
namespace Go.Proofs.YthipclehhcfahaaGreatDoor
open Go.RowKit Go.Shelf

/-- Numbers and texts are no truths. -/
theorem val_t0 (M : Mo) (t : Ex) (hw : t.wf) (h : t.kd = 1 ∨ t.kd = 2) : (t.val (vlv M)).t = false := by
  cases t with
  | lf p =>
    show (lfV M p).t = false
    unfold lfV fdV
    repeat' split
    all_goals rfl
  | un p a =>
    exfalso
    have h13 := sds_one hw.1
    have e : (Ex.un p a).kd = if bareP p then opK p.kd a.kd 0 else 0 := rfl
    rw [e, h13] at h
    unfold opK at h
    simp at h
    repeat' split at h
    all_goals omega
  | bi p a b =>
    have h2 := sds_two hw.1
    have e : (Ex.bi p a b).kd = if bareP p then opK p.kd a.kd b.kd else 0 := rfl
    rw [e] at h
    show (opV p.kd (a.val (vlv M)) (b.val (vlv M))).t = false
    by_cases hk : p.kd ≤ 6
    · unfold opV
      rcases (show p.kd = 4 ∨ p.kd = 5 ∨ p.kd = 6 by omega) with e | e | e
      · rw [if_pos e]
      · rw [if_neg (by omega), if_pos e]
      · rw [if_neg (by omega), if_neg (by omega), if_pos e]
    · exfalso
      split at h
      · unfold opK at h
        rw [if_neg (by omega)] at h
        repeat' split at h
        all_goals omega
      · omega
theorem opK_eq {k a b : Int} (hk : k = 9 ∨ k = 10) (h : opK k a b ≠ 0) : a = b ∧ (a = 1 ∨ a = 2) := by
  unfold opK at h
  rw [if_neg (by omega), if_neg (by omega), if_pos (by omega)] at h
  split at h
  · assumption
  · exact absurd rfl h
theorem reckon_tree {M : Mo} {ad an al : Option Addr} (cap cn cl : Nat) (xs : List Pt) (hx : xs.length ≤ 200) (hln : M.ns.length ≤ 9223372036854775807) (hbo : M.ns.length = M.la.length) (t : Ex) : t.wf → t.kd ≠ 0 → hasS M.ns t.flat = true → ∀ (pre rest : List Pt), xs = pre ++ (t.flat ++ rest) → ∀ w, RkE M ad an al xs w →
    Calls Tryz.prog 55 #[.slice ad xs.length cap, .int .i64 (pre.length : Int), .agg M.e.c, .slice an M.ns.length cn, .slice al M.la.length cl] w (RkT w (t.val (vlv M)) (pre.length + t.flat.length)) := by
  induction t with
  | lf p =>
    intro hw hk hs pre rest hxs w h
    unfold hasS at hs
    simp only [Ex.flat, List.all_cons, List.all_nil, Bool.and_true, Bool.or_eq_true] at hs
    exact reckon_leaf cap cn cl xs pre p rest hxs hx hln hbo hk hs w h
  | un p a ih =>
    intro hw hk hs pre rest hxs w h
    have h13 := sds_one hw.1
    have e : (Ex.un p a).kd = if bareP p then opK p.kd a.kd 0 else 0 := rfl
    have hb : bareP p = true := by
      cases hb : bareP p with
      | true => rfl
      | false => rw [e, hb] at hk; exact absurd rfl hk
    rw [e, hb, if_pos rfl] at hk
    have ha : a.kd ≠ 0 := fun h => hk (by rw [h]; exact opK_zero _ _)
    rw [Ex.flat, List.cons_append] at hxs
    obtain ⟨hat, hp⟩ := mid_get pre p _ xs hxs
    have hs2 : hasS M.ns a.flat = true := by
      unfold hasS at hs ⊢
      rw [Ex.flat, List.all_cons, Bool.and_eq_true] at hs
      exact hs.2
    have C1 := ih hw.2 ha hs2 (pre ++ [p]) rest (by rw [hxs]; simp)
    rw [List.length_append, List.length_singleton] at C1
    have := reckon_not cap cn cl xs pre.length (pre.length + 1 + a.flat.length) (a.val (vlv M)) hx hat (by rw [hp]; exact h13) C1 w h
    have ev : (Ex.un p a).val (vlv M) = ⟨0, noB, !(a.val (vlv M)).t⟩ := by
      show opV p.kd (a.val (vlv M)) ⟨0, noB, false⟩ = _
      rw [h13]
      rfl
    rw [ev]
    have el : pre.length + (Ex.un p a).flat.length = pre.length + 1 + a.flat.length := by rw [Ex.flat, List.length_cons]; omega
    rw [el]
    exact this
  | bi p a b iha ihb =>
    intro hw hk hs pre rest hxs w h
    have h2 := sds_two hw.1
    have e : (Ex.bi p a b).kd = if bareP p then opK p.kd a.kd b.kd else 0 := rfl
    have hb : bareP p = true := by
      cases hb : bareP p with
      | true => rfl
      | false => rw [e, hb] at hk; exact absurd rfl hk
    rw [e, hb, if_pos rfl] at hk
    have ha : a.kd ≠ 0 := fun h => hk (by rw [h]; exact opK_zero _ _)
    have hbb : b.kd ≠ 0 := fun h => hk (by rw [h]; exact opK_zero2 _ _ (by omega))
    rw [Ex.flat, List.cons_append, List.append_assoc] at hxs
    obtain ⟨hat, hp⟩ := mid_get pre p _ xs hxs
    have hs2 : hasS M.ns a.flat = true ∧ hasS M.ns b.flat = true := by
      unfold hasS at hs ⊢
      rw [Ex.flat, List.all_cons, Bool.and_eq_true, List.all_append, Bool.and_eq_true] at hs
      exact hs.2
    have C1 := iha hw.2.1 ha hs2.1 (pre ++ [p]) (b.flat ++ rest) (by rw [hxs]; simp)
    have C2 := ihb hw.2.2 hbb hs2.2 (pre ++ p :: a.flat) rest (by rw [hxs]; simp)
    rw [List.length_append, List.length_singleton] at C1
    have el2 : (pre ++ p :: a.flat).length = pre.length + 1 + a.flat.length := by rw [List.length_append, List.length_cons]; omega
    rw [el2] at C2
    have := reckon_two cap cn cl xs pre.length (pre.length + 1 + a.flat.length) (pre.length + 1 + a.flat.length + b.flat.length) (a.val (vlv M)) (b.val (vlv M)) hx hat (by rw [hp]; omega) (by rw [hp]; omega) (fun hq => by
      rw [hp] at hq
      obtain ⟨e1, e2⟩ := opK_eq hq hk
      rw [val_t0 M a hw.2.1 e2, val_t0 M b hw.2.2 (by rw [← e1]; exact e2)]) C1 C2 w h
    rw [hp] at this
    have el : pre.length + (Ex.bi p a b).flat.length = pre.length + 1 + a.flat.length + b.flat.length := by rw [Ex.flat, List.length_cons, List.length_append]; omega
    rw [el]
    exact this
set_option maxHeartbeats 1000000 in
set_option maxRecDepth 100000 in
theorem rValue_any {M : Mo} {ad an al : Option Addr} (cap cn cl : Nat) (t : Ex) (hx : t.flat.length ≤ 200) (hln : M.ns.length ≤ 9223372036854775807) (hbo : M.ns.length = M.la.length) (hw : t.wf) (hk : t.kd ≠ 0) (hs : hasS M.ns t.flat = true) (w : World) (h : RkE M ad an al t.flat w) :
    Calls Tryz.prog 36 #[.slice ad t.flat.length cap, .agg M.e.c, .slice an M.ns.length cn, .slice al M.la.length cl] w fun e w' => e = .returned (.bool (t.val (vlv M)).t) ∧ Below w.heap.size w w' := by
  have RK := reckon_tree cap cn cl t.flat hx hln hbo t hw hk hs [] [] (by simp) _ (h.kp (Kp.alloc w (.cells M.e.c 37)))
  have hev : M.e.c = #[.string M.e.k, .string M.e.t, .int .i64 M.e.n0, .int .i64 M.e.n1, .int .i64 M.e.n2, .int .i64 M.e.n3, .string M.e.x] := rfl
  have eb : EBox w.heap.size M.e (w.alloc (.cells M.e.c 37)) := CBox.new w _ _
  have hb0 : Below w.heap.size w (w.alloc (.cells M.e.c 37)) := (Below.refl _ _).alloc (Nat.le_refl _) _
  rw [List.length_nil] at RK
  unfold RkT at RK
  rw [hev] at RK eb hb0 ⊢
  obtain ⟨v0, v1, v2, v3, v4, v5, v6⟩ := eb.cells
  have HRK := hide RK
  have HB0 := hide hb0
  clear RK hev eb hb0 h hw hk hs hbo
  generalize t.val (vlv M) = V at *
  generalize 0 + t.flat.length = EE at *
  obtain ⟨vn, vs, vt⟩ := V
  unfold Vl.v at HRK
  dsimp only at *
  go_enter Tryz.func36, Tryz.ntmps36
  go_wp2_with fail
  refine (unhide HRK).mono ?_
  rintro e w1 ⟨rfl, hb1⟩
  have HB1 := hide (((unhide HB0).trans (hb1.mono (unhide HB0).size)).alloc (by have := (unhide HB0).size; have := hb1.size; omega) (.cells #[.int .i64 vn, .string vs, .bool vt] 124))
  clear HRK hb1 HB0 v0 v1 v2 v3 v4 v5 v6
  go_wp2
  go_ret
  exact ⟨rfl, unhide HB1⟩
end Go.Proofs.YthipclehhcfahaaGreatDoor
