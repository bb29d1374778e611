/-
  A part's value, of those of its sides; the fold of values.
  The document's answers: a field's value, an operation's value.
  A pair of results of which the first lies in cells. Of no program.
-/
import Derived.Test.YthipclehhcfahaaGreatDoorHC23
import Derived.Test.YthipclehhcfahaaGreatDoorHC26
import Derived.Test.YthipclehhcfahaaGreatDoorHC07
import Derived.Laws.ResultCell
namespace Go.Proofs.YthipclehhcfahaaGreatDoor
open Go.RowKit Go.Shelf

theorem vo_at (w : World) (A B C X : Obj) : ((((w.alloc A).alloc B).alloc C).alloc X).heap[w.heap.size + 1 + 1 + 1]? = some X := by
  have := heap_alloc_new (((w.alloc A).alloc B).alloc C) X
  rwa [show (((w.alloc A).alloc B).alloc C).heap.size = w.heap.size + 1 + 1 + 1 by simp] at this
theorem vo_all (w : World) (A B C X : Obj) : Below w.heap.size w ((((w.alloc A).alloc B).alloc C).alloc X) :=
  ((((Below.refl _ _).alloc (Nat.le_refl _) _).alloc (by simp) _).alloc (by simp; omega) _).alloc (by simp; omega) _
theorem vo_kp (w : World) (A B C X : Obj) : Kp [] w ((((w.alloc A).alloc B).alloc C).alloc X) := (((Kp.alloc _ _).trans (Kp.alloc _ _) (by simp)).trans (Kp.alloc _ _) (by simp)).trans (Kp.alloc _ _) (by simp)
theorem vl_put3 {g B : Nat} {t : TypeId} {a b c : Value} {w W : World} (hB : B ≤ g) (h : CBox g #[a, b, c] t W) (hb : Below B w W) (x y z : Value) :
    CBox g #[x, y, z] t (((W.setCell ⟨g, 0, none⟩ x).setCell ⟨g, 1, none⟩ y).setCell ⟨g, 2, none⟩ z) ∧ Below B w (((W.setCell ⟨g, 0, none⟩ x).setCell ⟨g, 1, none⟩ y).setCell ⟨g, 2, none⟩ z) :=
  ⟨((h.set 0 x).set 1 y).set 2 z, ((hb.setCell (p := ⟨g, 0, none⟩) hB _).setCell (p := ⟨g, 1, none⟩) hB _).setCell (p := ⟨g, 2, none⟩) hB _⟩
/-- What lies there behind a call, where the answer is written. -/
theorem vo_left {w W : World} {A B C : Obj} {r0 r1 r2 : Value} {t : TypeId} (hb : Below ((((w.alloc A).alloc B).alloc C).alloc (.cells #[r0, r1, r2] t)).heap.size ((((w.alloc A).alloc B).alloc C).alloc (.cells #[r0, r1, r2] t)) W) :
    (W.cell? ⟨w.heap.size + 1 + 1 + 1, 0, none⟩ = some r0 ∧ W.cell? ⟨w.heap.size + 1 + 1 + 1, 1, none⟩ = some r1 ∧ W.cell? ⟨w.heap.size + 1 + 1 + 1, 2, none⟩ = some r2 ∧ (∀ i, W.frozen? ⟨w.heap.size + 1 + 1 + 1, i, none⟩ = false)) ∧ w.heap.size + 1 + 1 + 1 < W.heap.size ∧ Hid (∀ x y z, CBox (w.heap.size + 1 + 1 + 1) #[x, y, z] t (((W.setCell ⟨w.heap.size + 1 + 1 + 1, 0, none⟩ x).setCell ⟨w.heap.size + 1 + 1 + 1, 1, none⟩ y).setCell ⟨w.heap.size + 1 + 1 + 1, 2, none⟩ z) ∧ Below w.heap.size w (((W.setCell ⟨w.heap.size + 1 + 1 + 1, 0, none⟩ x).setCell ⟨w.heap.size + 1 + 1 + 1, 1, none⟩ y).setCell ⟨w.heap.size + 1 + 1 + 1, 2, none⟩ z)) := by
  have h : CBox (w.heap.size + 1 + 1 + 1) #[r0, r1, r2] t W := CBox.kp (vo_at w A B C _) (Kp.ofBelow hb) (by simp)
  exact ⟨⟨h.cell rfl, h.cell rfl, h.cell rfl, h.froz⟩, (Array.getElem?_eq_some_iff.1 h).1, hide (vl_put3 (by omega) h ((vo_all w A B C _).trans (hb.mono (by simp; omega))))⟩
set_option maxHeartbeats 2000000 in
set_option maxRecDepth 100000 in
theorem valueOf_op {gm : Nat} (p : Pt) (a b R : Vl) (EF : Nat) (w : World) (h0 : sds p.kd ≠ 0) (hfn : fnO p.kd = .func (.func EF) #[] #[])
    (hen : ∀ args W, (callFunc EF args).run Tryz.prog W = .ok (.enter EF args) W) (HC : ∀ W, Calls Tryz.prog EF #[a.v, b.v] W fun e w' => e = .returned R.v ∧ Below W.heap.size W w') :
    Calls Tryz.prog 35 #[.pointer (some ⟨gm, 0, none⟩), p.v, .agg (rowC p.kd), .agg #[.int .i64 a.n, .string a.s, .bool a.t, .int .i64 b.n, .string b.s, .bool b.t]] w fun e w' => e = .returned R.v ∧ Below w.heap.size w w' := by
  have hs0 : ((0 : Int) < (sds p.kd : Nat)) := by omega
  have HEN := hide hen
  have HCC := hide HC
  unfold rowC
  rw [hfn]
  generalize txt (sgO p.kd) = S at *
  generalize ofO p.kd = O at *
  generalize isO p.kd = I at *
  generalize sds p.kd = N at *
  clear hen HC hfn h0
  obtain ⟨kd, n, s, st, fl⟩ := p
  obtain ⟨an, as_, at_⟩ := a
  obtain ⟨bn, bs, bt⟩ := b
  obtain ⟨rn, rs, rt⟩ := R
  unfold Pt.v Vl.v at *
  dsimp only at *
  go_enter Tryz.func35, Tryz.ntmps35
  go_wp2_with fail
  rw [unhide HEN, Oper.upon_enter]
  refine (unhide HCC _).mono ?_
  rintro e w1 ⟨rfl, hb1⟩
  obtain ⟨⟨r0, r1, r2, rf⟩, hlt, HX⟩ := vo_left hb1
  clear hb1 HCC HEN
  dsimp only
  go_wp2
  exact bodyPost_ret (results_cell_row Tryz.results35 _ _ (w.heap.size + 1 + 1 + 1) 81 _ (0, 0) _ rfl (unhide HX _ _ _).1 Tryz.underlying81 rfl info_vl) rfl ⟨rfl, (unhide HX _ _ _).2⟩
set_option maxHeartbeats 2000000 in
set_option maxRecDepth 100000 in
theorem valueOf_leaf {gm : Nat} {M : Mo} {an al : Option Addr} {cn cl : Nat} (p : Pt) (w : World) (h0 : sds p.kd = 0) (hM : MoAt gm M an al cn cl w) (hl : lfK p ≠ 0) (hs : emptyB p.st = true ∨ hasN M.ns p.st = true) :
    Calls Tryz.prog 35 #[.pointer (some ⟨gm, 0, none⟩), p.v, .agg (rowC p.kd), .agg #[.int .i64 0, .string { data := #[] }, .bool false, .int .i64 0, .string { data := #[] }, .bool false]] w fun e w' => e = .returned (lfV M p).v ∧ Below w.heap.size w w' := by
  have hone := fnO_one p.kd
  have hx := lfK_ne hl
  have HFV : Hid (p.kd = 3 → ∀ W, Below w.heap.size w W → Calls Tryz.prog 54 #[.pointer (some ⟨gm, 0, none⟩), .string p.st, .int .i64 p.fl] W fun e w' => e = .returned (fdV (M.at p.st) p.fl).v ∧ Below W.heap.size W w') := hide (fun hk W hb => fieldValue_any (hM.below hb) p.st p.fl (by
    rcases hx with ⟨e, _⟩ | ⟨e, _⟩ | ⟨_, a, b, _⟩
    · omega
    · omega
    · exact ⟨a, b⟩) hs)
  have hkd : p.kd = 1 ∨ p.kd = 2 ∨ p.kd = 3 := by
    rcases hx with ⟨e, _⟩ | ⟨e, _⟩ | ⟨e, _⟩
    · exact Or.inl e
    · exact Or.inr (Or.inl e)
    · exact Or.inr (Or.inr e)
  have HLV : Hid (lfV M p = if p.kd = 1 then ⟨p.n, noB, false⟩ else if p.kd = 2 then ⟨0, p.s, false⟩ else fdV (M.at p.st) p.fl) := hide rfl
  obtain ⟨F3, hF3⟩ : ∃ F3, fdV (M.at p.st) p.fl = F3 := ⟨_, rfl⟩
  rw [hF3] at HFV HLV
  obtain ⟨LV, hLV⟩ : ∃ LV, lfV M p = LV := ⟨_, rfl⟩
  rw [hLV] at HLV ⊢
  unfold rowC
  rw [h0]
  generalize fnO p.kd = F at *
  generalize txt (sgO p.kd) = S at *
  generalize ofO p.kd = O at *
  generalize isO p.kd = I at *
  clear hM hl hs hx h0 hF3 hLV
  obtain ⟨kd, n, s, st, fl⟩ := p
  unfold Pt.v
  dsimp only at *
  rcases hkd with rfl | rfl | rfl
  · obtain rfl : LV = ⟨n, noB, false⟩ := (unhide HLV).trans (if_pos rfl)
    clear HFV HLV
    unfold Vl.v noB
    dsimp only
    go_enter Tryz.func35, Tryz.ntmps35
    go_wp2
    exact bodyPost_ret (results_cell_row Tryz.results35 _ _ (w.heap.size + 1 + 1 + 1) 81 _ (0, 0) _ rfl (vo_at w _ _ _ _) Tryz.underlying81 rfl info_vl) rfl ⟨rfl, vo_all w _ _ _ _⟩
  · obtain rfl : LV = ⟨0, s, false⟩ := (unhide HLV).trans ((if_neg (by decide)).trans (if_pos rfl))
    clear HFV HLV
    unfold Vl.v
    dsimp only
    go_enter Tryz.func35, Tryz.ntmps35
    go_wp2
    exact bodyPost_ret (results_cell_row Tryz.results35 _ _ (w.heap.size + 1 + 1 + 1) 81 _ (0, 0) _ rfl (vo_at w _ _ _ _) Tryz.underlying81 rfl info_vl) rfl ⟨rfl, vo_all w _ _ _ _⟩
  · obtain rfl : LV = F3 := (unhide HLV).trans ((if_neg (by decide)).trans (if_neg (by decide)))
    have HFV2 := hide (unhide HFV rfl)
    clear HFV HLV
    obtain ⟨rn, rs, rt⟩ := LV
    unfold Vl.v at *
    dsimp only at *
    go_enter Tryz.func35, Tryz.ntmps35
    go_wp2_with fail
    refine (unhide HFV2 _ (vo_all w _ _ _ _)).mono ?_
    rintro e w1 ⟨rfl, hb1⟩
    obtain ⟨⟨r0, r1, r2, rf⟩, hlt, HX⟩ := vo_left hb1
    clear hb1 HFV2
    go_wp2
    exact bodyPost_ret (results_cell_row Tryz.results35 _ _ (w.heap.size + 1 + 1 + 1) 81 _ (0, 0) _ rfl (unhide HX _ _ _).1 Tryz.underlying81 rfl info_vl) rfl ⟨rfl, (unhide HX _ _ _).2⟩
theorem opf_any (k : Int) (h4 : 4 ≤ k) (h13 : k ≤ 13) (a b : Vl) : ∃ EF, fnO k = .func (.func EF) #[] #[] ∧ (∀ args W, (callFunc EF args).run Tryz.prog W = .ok (.enter EF args) W) ∧ ∀ W, Calls Tryz.prog EF #[a.v, b.v] W fun e w' => e = .returned (opV k a b).v ∧ Below W.heap.size W w' := by
  rcases (show k = 4 ∨ k = 5 ∨ k = 6 ∨ k = 7 ∨ k = 8 ∨ k = 9 ∨ k = 10 ∨ k = 11 ∨ k = 12 ∨ k = 13 by omega) with rfl | rfl | rfl | rfl | rfl | rfl | rfl | rfl | rfl | rfl
  · exact ⟨60, rfl, enters_of Tryz.func60 (by kernel_rfl) rfl, opf1 a b⟩
  · exact ⟨61, rfl, enters_of Tryz.func61 (by kernel_rfl) rfl, opf2 a b⟩
  · exact ⟨62, rfl, enters_of Tryz.func62 (by kernel_rfl) rfl, opf3 a b⟩
  · exact ⟨63, rfl, enters_of Tryz.func63 (by kernel_rfl) rfl, opf4 a b⟩
  · exact ⟨64, rfl, enters_of Tryz.func64 (by kernel_rfl) rfl, opf5 a b⟩
  · exact ⟨65, rfl, enters_of Tryz.func65 (by kernel_rfl) rfl, opf6 a b⟩
  · exact ⟨66, rfl, enters_of Tryz.func66 (by kernel_rfl) rfl, opf7 a b⟩
  · exact ⟨67, rfl, enters_of Tryz.func67 (by kernel_rfl) rfl, opf8 a b⟩
  · exact ⟨68, rfl, enters_of Tryz.func68 (by kernel_rfl) rfl, opf9 a b⟩
  · exact ⟨69, rfl, enters_of Tryz.func69 (by kernel_rfl) rfl, opf10 a b⟩
/-- The value of a part that may be. -/
theorem valueOf_each {gm : Nat} {M : Mo} {an al : Option Addr} {cn cl : Nat} {xs : List Pt} {w : World} (hM : MoAt gm M an al cn cl w) (hlv : ∀ q ∈ xs, sds q.kd = 0 → lfK q ≠ 0) (hst : hasS M.ns xs = true) (p : Pt) (ts : List Ex) (W : World) (hp : p ∈ xs) (hs : ts.length = sds p.kd) (hb : Below w.heap.size w W) :
    Calls Tryz.prog 35 #[.pointer (some ⟨gm, 0, none⟩), p.v, .agg (rowC p.kd), .agg (sdCV (ts.map (Ex.val (vlv M))))] W fun e w' => e = .returned (.agg (vlE ((vlv M) p (ts.map (Ex.val (vlv M))))).toArray) ∧ Below W.heap.size W w' := by
  have h2 := sds_le p.kd
  have hk : sds p.kd ≠ 0 → 4 ≤ p.kd ∧ p.kd ≤ 13 := fun h => by
    rcases (show sds p.kd = 1 ∨ sds p.kd = 2 by omega) with e | e
    · have := sds_one e; omega
    · have := sds_two e; omega
  match ts, hs with
  | [], hs =>
    have hq := List.all_eq_true.1 hst p hp
    simp only [Bool.or_eq_true] at hq
    exact valueOf_leaf p W hs.symm (hM.below hb) (hlv p hp hs.symm) hq
  | [a], hs =>
    have h0 : sds p.kd ≠ 0 := by rw [← hs]; simp
    obtain ⟨EF, e1, e2, e3⟩ := opf_any p.kd (hk h0).1 (hk h0).2 (a.val (vlv M)) ⟨0, noB, false⟩
    exact valueOf_op p (a.val (vlv M)) ⟨0, noB, false⟩ _ EF W h0 e1 e2 e3
  | [a, b], hs =>
    have h0 : sds p.kd ≠ 0 := by rw [← hs]; simp
    obtain ⟨EF, e1, e2, e3⟩ := opf_any p.kd (hk h0).1 (hk h0).2 (a.val (vlv M)) (b.val (vlv M))
    exact valueOf_op p (a.val (vlv M)) (b.val (vlv M)) _ EF W h0 e1 e2 e3
  | a :: b :: c :: r, hs => simp at hs; omega
theorem fold_values {gm : Nat} {M : Mo} {an al : Option Addr} {cn cl : Nat} (ad : Option Addr) (cap : Nat) (xs : List Pt) (hsz : xs.length ≤ 200) (w : World) (hc : PtsAt w ad xs) (hM : MoAt gm M an al cn cl w) (hlv : ∀ q ∈ xs, sds q.kd = 0 → lfK q ≠ 0) (hst : hasS M.ns xs = true) :
    Calls Tryz.prog 34 #[.slice ad xs.length cap, .func (.func 35) #[.pointer (some ⟨gm, 0, none⟩)] #[]] w fun e w' => e = .returned (foRV (fdX (vlv M) xs)) ∧ Below w.heap.size w w' :=
  callsIn_wide.1 (foldV_in 35 ad cap xs hsz w (PtsLow.of hc) (enters_of Tryz.func35 (by kernel_rfl) rfl) (fun p ts W hp _ _ hs hb => valueOf_each hM hlv hst p ts W hp hs hb))
end Go.Proofs.YthipclehhcfahaaGreatDoor
namespace Go.Proofs.YthipclehhcfahaaGreatDoor
open Go.RowKit Go.Shelf

theorem info_rvl : (Tryz.prog.info? 124).map (·.size) = some 3 := by kernel_rfl
theorem two_at (w : World) (A X : Obj) : ((w.alloc A).alloc X).heap[w.heap.size + 1]? = some X := by
  have := heap_alloc_new (w.alloc A) X
  rwa [show (w.alloc A).heap.size = w.heap.size + 1 by simp] at this
set_option maxHeartbeats 1000000 in
set_option maxRecDepth 100000 in
theorem rGet_any (ev : Ev) (f : Int) (hf : 0 ≤ f ∧ f ≤ 5) (w : World) : Calls Tryz.prog 79 #[.agg ev.c, .int .i64 f] w fun e w' => e = .returned (fdV ev f).v ∧ Below w.heap.size w w' := by
  have hev : ev.c = #[.string ev.k, .string ev.t, .int .i64 ev.n0, .int .i64 ev.n1, .int .i64 ev.n2, .int .i64 ev.n3, .string ev.x] := rfl
  rw [hev]
  clear hev
  rcases (show f = 0 ∨ f = 1 ∨ f = 2 ∨ f = 3 ∨ f = 4 ∨ f = 5 by omega) with rfl | rfl | rfl | rfl | rfl | rfl
  all_goals
    go_enter Tryz.func79, Tryz.ntmps79
    go_wp2
    exact bodyPost_ret (results_cell_row Tryz.results79 _ _ (w.heap.size + 1) 124 _ (0, 0) _ rfl (two_at w _ _) Tryz.underlying124 rfl info_rvl) rfl ⟨rfl, ((Below.refl _ _).alloc (Nat.le_refl _) _).alloc (by simp) _⟩
set_option maxHeartbeats 2000000 in
set_option maxRecDepth 100000 in
theorem rTwo_any (k : Int) (h4 : 4 ≤ k) (h12 : k ≤ 12) (a b : Vl) (ht : k = 9 ∨ k = 10 → a.t = b.t) (w : World) : Calls Tryz.prog 80 #[.int .i64 k, a.v, b.v] w fun e w' => e = .returned (opV k a b).v ∧ Below w.heap.size w w' := by
  obtain ⟨n, s, t⟩ := a
  obtain ⟨n', s', t'⟩ := b
  dsimp only at ht
  unfold Vl.v
  rcases (show k = 4 ∨ k = 5 ∨ k = 6 ∨ k = 7 ∨ k = 8 ∨ k = 9 ∨ k = 10 ∨ k = 11 ∨ k = 12 by omega) with rfl | rfl | rfl | rfl | rfl | rfl | rfl | rfl | rfl
  · go_enter Tryz.func80, Tryz.ntmps80
    go_wp2
    exact bodyPost_ret (results_cell_row Tryz.results80 _ _ (w.heap.size + 1 + 1) 124 _ (0, 0) _ rfl (vl_at w _ _ _) Tryz.underlying124 rfl info_rvl) rfl ⟨by first | rfl | (rw [← IntWalk.i64_left]; rfl), vl_all w _ _ _⟩
  · go_enter Tryz.func80, Tryz.ntmps80
    go_wp2
    exact bodyPost_ret (results_cell_row Tryz.results80 _ _ (w.heap.size + 1 + 1) 124 _ (0, 0) _ rfl (vl_at w _ _ _) Tryz.underlying124 rfl info_rvl) rfl ⟨by first | rfl | (rw [← IntWalk.i64_left]; rfl), vl_all w _ _ _⟩
  · go_enter Tryz.func80, Tryz.ntmps80
    go_wp2
    exact bodyPost_ret (results_cell_row Tryz.results80 _ _ (w.heap.size + 1 + 1) 124 _ (0, 0) _ rfl (vl_at w _ _ _) Tryz.underlying124 rfl info_rvl) rfl ⟨by first | rfl | (rw [← IntWalk.i64_left]; rfl), vl_all w _ _ _⟩
  · go_enter Tryz.func80, Tryz.ntmps80
    go_wp2
    exact bodyPost_ret (results_cell_row Tryz.results80 _ _ (w.heap.size + 1 + 1) 124 _ (0, 0) _ rfl (vl_at w _ _ _) Tryz.underlying124 rfl info_rvl) rfl ⟨rfl, vl_all w _ _ _⟩
  · go_enter Tryz.func80, Tryz.ntmps80
    go_wp2
    exact bodyPost_ret (results_cell_row Tryz.results80 _ _ (w.heap.size + 1 + 1) 124 _ (0, 0) _ rfl (vl_at w _ _ _) Tryz.underlying124 rfl info_rvl) rfl ⟨rfl, vl_all w _ _ _⟩
  · obtain rfl := ht (Or.inl rfl)
    have e : opV 9 ⟨n, s, t⟩ ⟨n', s', t⟩ = ⟨0, noB, (n == n') && (s.toList == s'.toList)⟩ := by
      show (⟨0, noB, eqV ⟨n, s, t⟩ ⟨n', s', t⟩⟩ : Vl) = _
      unfold eqV
      dsimp only
      rw [decide_eq_true (show t = t from rfl), Bool.and_true, toList_data, toList_data]
      congr 1
      rw [Bool.eq_iff_iff]
      simp
    rw [e]
    clear e ht
    dsimp only
    by_cases hn : n = n'
    · have g : (n == n') = true := by rw [hn]; exact beq_self_eq_true _
      rw [g, Bool.true_and]
      go_enter Tryz.func80, Tryz.ntmps80
      go_wp2
      all_goals exact bodyPost_ret (results_cell_row Tryz.results80 _ _ (w.heap.size + 1 + 1) 124 _ (0, 0) _ rfl (vl_at w _ _ _) Tryz.underlying124 rfl info_rvl) rfl ⟨rfl, vl_all w _ _ _⟩
    · have g : (n == n') = false := beq_eq_false_iff_ne.2 hn
      rw [g, Bool.false_and]
      go_enter Tryz.func80, Tryz.ntmps80
      go_wp2
      exact bodyPost_ret (results_cell_row Tryz.results80 _ _ (w.heap.size + 1 + 1) 124 _ (0, 0) _ rfl (vl_at w _ _ _) Tryz.underlying124 rfl info_rvl) rfl ⟨rfl, vl_all w _ _ _⟩
  · obtain rfl := ht (Or.inr rfl)
    have e : opV 10 ⟨n, s, t⟩ ⟨n', s', t⟩ = ⟨0, noB, !((n == n') && (s.toList == s'.toList))⟩ := by
      show (⟨0, noB, !eqV ⟨n, s, t⟩ ⟨n', s', t⟩⟩ : Vl) = _
      unfold eqV
      dsimp only
      rw [decide_eq_true (show t = t from rfl), Bool.and_true, toList_data, toList_data]
      congr 2
      rw [Bool.eq_iff_iff]
      simp
    rw [e]
    clear e ht
    dsimp only
    by_cases hn : n = n'
    · have g : (n == n') = true := by rw [hn]; exact beq_self_eq_true _
      rw [g, Bool.true_and]
      go_enter Tryz.func80, Tryz.ntmps80
      go_wp2
      all_goals exact bodyPost_ret (results_cell_row Tryz.results80 _ _ (w.heap.size + 1 + 1) 124 _ (0, 0) _ rfl (vl_at w _ _ _) Tryz.underlying124 rfl info_rvl) rfl ⟨rfl, vl_all w _ _ _⟩
    · have g : (n == n') = false := beq_eq_false_iff_ne.2 hn
      rw [g, Bool.false_and]
      go_enter Tryz.func80, Tryz.ntmps80
      go_wp2
      exact bodyPost_ret (results_cell_row Tryz.results80 _ _ (w.heap.size + 1 + 1) 124 _ (0, 0) _ rfl (vl_at w _ _ _) Tryz.underlying124 rfl info_rvl) rfl ⟨rfl, vl_all w _ _ _⟩
  · cases t
    all_goals
      go_enter Tryz.func80, Tryz.ntmps80
      go_wp2
      exact bodyPost_ret (results_cell_row Tryz.results80 _ _ (w.heap.size + 1 + 1) 124 _ (0, 0) _ rfl (vl_at w _ _ _) Tryz.underlying124 rfl info_rvl) rfl ⟨rfl, vl_all w _ _ _⟩
  · cases t
    all_goals
      go_enter Tryz.func80, Tryz.ntmps80
      go_wp2
      exact bodyPost_ret (results_cell_row Tryz.results80 _ _ (w.heap.size + 1 + 1) 124 _ (0, 0) _ rfl (vl_at w _ _ _) Tryz.underlying124 rfl info_rvl) rfl ⟨rfl, vl_all w _ _ _⟩
end Go.Proofs.YthipclehhcfahaaGreatDoor
namespace Go.Proofs.YthipclehhcfahaaGreatDoor
open Go.RowKit

theorem results_row_tmp {P : Program} {fn : Func} {p u : Tmp} {ty : TypeId} (h : fn.results = #[.cell p ty, .tmp u]) (tmps : Array Value) (w : World) (g : Nat) (t : TypeId) (cs : Array Value) (fr : Nat × Nat) (d : TypeDesc)
    (hp : tmps.getD p undef = .pointer (some ⟨g, 0, none⟩)) (hg : w.heap[g]? = some (.cells cs t fr))
    (hu : P.underlying ty = some d) (hd : (match d with | .struct _ | .array _ _ => true | _ => false) = true) (hi : (P.info? ty).map (·.size) = some cs.size) :
    (results fn tmps).run P w = .ok (.tuple #[.agg cs, tmps.getD u undef]) w := by
  rw [results_cell_tmp h, hp]
  simp [asAddr, run_loadVar_row w g t ty cs fr d hg hu hd hi]
end Go.Proofs.YthipclehhcfahaaGreatDoor
