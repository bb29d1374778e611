/-
  A part's value, of those of its sides; the fold of values.
  hasStages: have all stages that are asked for their names there; Holds.
  Holds: whether a condition holds, as the plain function has it.
-/
import Derived.Test.YthipclehhcfahaaGreatDoorGt30
import Derived.Test.YthipclehhcfahaaGreatDoorGt20
import Derived.Deep.QuietTactic
import Derived.Test.YthipclehhcfahaaGreatDoorGt22
namespace Go.Proofs.YthipclehhcfahaaGreatDoor
open Go.RowKit Go.Shelf

theorem vo_at (w : World) (A B C X : Obj) : ((((w.alloc A).alloc B).alloc C).alloc X).heap[w.heap.size + 1 + 1 + 1]? = some X := by
  have := heap_alloc_new (((w.alloc A).alloc B).alloc C) X
  rwa [show (((w.alloc A).alloc B).alloc C).heap.size = w.heap.size + 1 + 1 + 1 by simp] at this
theorem vo_all (w : World) (A B C X : Obj) : Below w.heap.size w ((((w.alloc A).alloc B).alloc C).alloc X) :=
  ((((Below.refl _ _).alloc (Nat.le_refl _) _).alloc (by simp) _).alloc (by simp; omega) _).alloc (by simp; omega) _
theorem vo_kp (w : World) (A B C X : Obj) : Kp [] w ((((w.alloc A).alloc B).alloc C).alloc X) := (((Kp.alloc _ _).trans (Kp.alloc _ _) (by simp)).trans (Kp.alloc _ _) (by simp)).trans (Kp.alloc _ _) (by simp)
theorem vl_put3 {g B : Nat} {t : TypeId} {a b c : Value} {w W : World} (hB : B ≤ g) (h : CBox g #[a, b, c] t W) (hb : Below B w W) (x y z : Value) :
    CBox g #[x, y, z] t (((W.setCell ⟨g, 0, none⟩ x).setCell ⟨g, 1, none⟩ y).setCell ⟨g, 2, none⟩ z) ∧ Below B w (((W.setCell ⟨g, 0, none⟩ x).setCell ⟨g, 1, none⟩ y).setCell ⟨g, 2, none⟩ z) :=
  ⟨((h.set 0 x).set 1 y).set 2 z, ((hb.setCell (p := ⟨g, 0, none⟩) hB _).setCell (p := ⟨g, 1, none⟩) hB _).setCell (p := ⟨g, 2, none⟩) hB _⟩
/-- What lies there behind a call, where the answer is written. -/
theorem vo_left {w W : World} {A B C : Obj} {r0 r1 r2 : Value} {t : TypeId} (hb : Below ((((w.alloc A).alloc B).alloc C).alloc (.cells #[r0, r1, r2] t)).heap.size ((((w.alloc A).alloc B).alloc C).alloc (.cells #[r0, r1, r2] t)) W) :
    (W.cell? ⟨w.heap.size + 1 + 1 + 1, 0, none⟩ = some r0 ∧ W.cell? ⟨w.heap.size + 1 + 1 + 1, 1, none⟩ = some r1 ∧ W.cell? ⟨w.heap.size + 1 + 1 + 1, 2, none⟩ = some r2 ∧ (∀ i, W.frozen? ⟨w.heap.size + 1 + 1 + 1, i, none⟩ = false)) ∧ w.heap.size + 1 + 1 + 1 < W.heap.size ∧ Hid (∀ x y z, CBox (w.heap.size + 1 + 1 + 1) #[x, y, z] t (((W.setCell ⟨w.heap.size + 1 + 1 + 1, 0, none⟩ x).setCell ⟨w.heap.size + 1 + 1 + 1, 1, none⟩ y).setCell ⟨w.heap.size + 1 + 1 + 1, 2, none⟩ z) ∧ Below w.heap.size w (((W.setCell ⟨w.heap.size + 1 + 1 + 1, 0, none⟩ x).setCell ⟨w.heap.size + 1 + 1 + 1, 1, none⟩ y).setCell ⟨w.heap.size + 1 + 1 + 1, 2, none⟩ z)) := by
  have h : CBox (w.heap.size + 1 + 1 + 1) #[r0, r1, r2] t W := CBox.kp (vo_at w A B C _) (Kp.ofBelow hb) (by simp)
  exact ⟨⟨h.cell rfl, h.cell rfl, h.cell rfl, h.froz⟩, (Array.getElem?_eq_some_iff.1 h).1, hide (vl_put3 (by omega) h ((vo_all w A B C _).trans (hb.mono (by simp; omega))))⟩
set_option maxHeartbeats 2000000 in
set_option maxRecDepth 100000 in
theorem valueOf_op {gm : Nat} (p : Pt) (a b R : Vl) (EF : Nat) (w : World) (h0 : sds p.kd ≠ 0) (hfn : fnO p.kd = .func (.func EF) #[] #[])
    (hen : ∀ args W, (callFunc EF args).run Tryz.prog W = .ok (.enter EF args) W) (HC : ∀ W, Calls Tryz.prog EF #[a.v, b.v] W fun e w' => e = .returned R.v ∧ Below W.heap.size W w') :
    Calls Tryz.prog 35 #[.pointer (some ⟨gm, 0, none⟩), p.v, .agg (rowC p.kd), .agg #[.int .i64 a.n, .string a.s, .bool a.t, .int .i64 b.n, .string b.s, .bool b.t]] w fun e w' => e = .returned R.v ∧ Below w.heap.size w w' := by
  have hs0 : ((0 : Int) < (sds p.kd : Nat)) := by omega
  have HEN := hide hen
  have HCC := hide HC
  unfold rowC
  rw [hfn]
  generalize txt (sgO p.kd) = S at *
  generalize ofO p.kd = O at *
  generalize isO p.kd = I at *
  generalize sds p.kd = N at *
  clear hen HC hfn h0
  obtain ⟨kd, n, s, st, fl⟩ := p
  obtain ⟨an, as_, at_⟩ := a
  obtain ⟨bn, bs, bt⟩ := b
  obtain ⟨rn, rs, rt⟩ := R
  unfold Pt.v Vl.v at *
  dsimp only at *
  go_enter Tryz.func35, Tryz.ntmps35
  go_wp2_with fail
  rw [unhide HEN, Oper.upon_enter]
  refine (unhide HCC _).mono ?_
  rintro e w1 ⟨rfl, hb1⟩
  obtain ⟨⟨r0, r1, r2, rf⟩, hlt, HX⟩ := vo_left hb1
  clear hb1 HCC HEN
  dsimp only
  go_wp2
  exact bodyPost_ret (results_cell_row Tryz.results35 _ _ (w.heap.size + 1 + 1 + 1) 81 _ (0, 0) _ rfl (unhide HX _ _ _).1 Tryz.underlying81 rfl info_vl) rfl ⟨rfl, (unhide HX _ _ _).2⟩
set_option maxHeartbeats 2000000 in
set_option maxRecDepth 100000 in
theorem valueOf_leaf {gm : Nat} {M : Mo} {an al : Option Addr} {cn cl : Nat} (p : Pt) (w : World) (h0 : sds p.kd = 0) (hM : MoAt gm M an al cn cl w) (hl : lfK p ≠ 0) (hs : emptyB p.st = true ∨ hasN M.ns p.st = true) :
    Calls Tryz.prog 35 #[.pointer (some ⟨gm, 0, none⟩), p.v, .agg (rowC p.kd), .agg #[.int .i64 0, .string { data := #[] }, .bool false, .int .i64 0, .string { data := #[] }, .bool false]] w fun e w' => e = .returned (lfV M p).v ∧ Below w.heap.size w w' := by
  have hone := fnO_one p.kd
  have hx := lfK_ne hl
  have HFV : Hid (p.kd = 3 → ∀ W, Below w.heap.size w W → Calls Tryz.prog 54 #[.pointer (some ⟨gm, 0, none⟩), .string p.st, .int .i64 p.fl] W fun e w' => e = .returned (fdV (M.at p.st) p.fl).v ∧ Below W.heap.size W w') := hide (fun hk W hb => fieldValue_any (hM.below hb) p.st p.fl (by
    rcases hx with ⟨e, _⟩ | ⟨e, _⟩ | ⟨_, a, b, _⟩
    · omega
    · omega
    · exact ⟨a, b⟩) hs)
  have hkd : p.kd = 1 ∨ p.kd = 2 ∨ p.kd = 3 := by
    rcases hx with ⟨e, _⟩ | ⟨e, _⟩ | ⟨e, _⟩
    · exact Or.inl e
    · exact Or.inr (Or.inl e)
    · exact Or.inr (Or.inr e)
  have HLV : Hid (lfV M p = if p.kd = 1 then ⟨p.n, noB, false⟩ else if p.kd = 2 then ⟨0, p.s, false⟩ else fdV (M.at p.st) p.fl) := hide rfl
  obtain ⟨F3, hF3⟩ : ∃ F3, fdV (M.at p.st) p.fl = F3 := ⟨_, rfl⟩
  rw [hF3] at HFV HLV
  obtain ⟨LV, hLV⟩ : ∃ LV, lfV M p = LV := ⟨_, rfl⟩
  rw [hLV] at HLV ⊢
  unfold rowC
  rw [h0]
  generalize fnO p.kd = F at *
  generalize txt (sgO p.kd) = S at *
  generalize ofO p.kd = O at *
  generalize isO p.kd = I at *
  clear hM hl hs hx h0 hF3 hLV
  obtain ⟨kd, n, s, st, fl⟩ := p
  unfold Pt.v
  dsimp only at *
  rcases hkd with rfl | rfl | rfl
  · obtain rfl : LV = ⟨n, noB, false⟩ := (unhide HLV).trans (if_pos rfl)
    clear HFV HLV
    unfold Vl.v noB
    dsimp only
    go_enter Tryz.func35, Tryz.ntmps35
    go_wp2
    exact bodyPost_ret (results_cell_row Tryz.results35 _ _ (w.heap.size + 1 + 1 + 1) 81 _ (0, 0) _ rfl (vo_at w _ _ _ _) Tryz.underlying81 rfl info_vl) rfl ⟨rfl, vo_all w _ _ _ _⟩
  · obtain rfl : LV = ⟨0, s, false⟩ := (unhide HLV).trans ((if_neg (by decide)).trans (if_pos rfl))
    clear HFV HLV
    unfold Vl.v
    dsimp only
    go_enter Tryz.func35, Tryz.ntmps35
    go_wp2
    exact bodyPost_ret (results_cell_row Tryz.results35 _ _ (w.heap.size + 1 + 1 + 1) 81 _ (0, 0) _ rfl (vo_at w _ _ _ _) Tryz.underlying81 rfl info_vl) rfl ⟨rfl, vo_all w _ _ _ _⟩
  · obtain rfl : LV = F3 := (unhide HLV).trans ((if_neg (by decide)).trans (if_neg (by decide)))
    have HFV2 := hide (unhide HFV rfl)
    clear HFV HLV
    obtain ⟨rn, rs, rt⟩ := LV
    unfold Vl.v at *
    dsimp only at *
    go_enter Tryz.func35, Tryz.ntmps35
    go_wp2_with fail
    refine (unhide HFV2 _ (vo_all w _ _ _ _)).mono ?_
    rintro e w1 ⟨rfl, hb1⟩
    obtain ⟨⟨r0, r1, r2, rf⟩, hlt, HX⟩ := vo_left hb1
    clear hb1 HFV2
    go_wp2
    exact bodyPost_ret (results_cell_row Tryz.results35 _ _ (w.heap.size + 1 + 1 + 1) 81 _ (0, 0) _ rfl (unhide HX _ _ _).1 Tryz.underlying81 rfl info_vl) rfl ⟨rfl, (unhide HX _ _ _).2⟩
theorem opf_any (k : Int) (h4 : 4 ≤ k) (h13 : k ≤ 13) (a b : Vl) : ∃ EF, fnO k = .func (.func EF) #[] #[] ∧ (∀ args W, (callFunc EF args).run Tryz.prog W = .ok (.enter EF args) W) ∧ ∀ W, Calls Tryz.prog EF #[a.v, b.v] W fun e w' => e = .returned (opV k a b).v ∧ Below W.heap.size W w' := by
  rcases (show k = 4 ∨ k = 5 ∨ k = 6 ∨ k = 7 ∨ k = 8 ∨ k = 9 ∨ k = 10 ∨ k = 11 ∨ k = 12 ∨ k = 13 by omega) with rfl | rfl | rfl | rfl | rfl | rfl | rfl | rfl | rfl | rfl
  · exact ⟨60, rfl, enters_of Tryz.func60 (by kernel_rfl) rfl, opf1 a b⟩
  · exact ⟨61, rfl, enters_of Tryz.func61 (by kernel_rfl) rfl, opf2 a b⟩
  · exact ⟨62, rfl, enters_of Tryz.func62 (by kernel_rfl) rfl, opf3 a b⟩
  · exact ⟨63, rfl, enters_of Tryz.func63 (by kernel_rfl) rfl, opf4 a b⟩
  · exact ⟨64, rfl, enters_of Tryz.func64 (by kernel_rfl) rfl, opf5 a b⟩
  · exact ⟨65, rfl, enters_of Tryz.func65 (by kernel_rfl) rfl, opf6 a b⟩
  · exact ⟨66, rfl, enters_of Tryz.func66 (by kernel_rfl) rfl, opf7 a b⟩
  · exact ⟨67, rfl, enters_of Tryz.func67 (by kernel_rfl) rfl, opf8 a b⟩
  · exact ⟨68, rfl, enters_of Tryz.func68 (by kernel_rfl) rfl, opf9 a b⟩
  · exact ⟨69, rfl, enters_of Tryz.func69 (by kernel_rfl) rfl, opf10 a b⟩
/-- The value of a part that may be. -/
theorem valueOf_each {gm : Nat} {M : Mo} {an al : Option Addr} {cn cl : Nat} {xs : List Pt} {w : World} (hM : MoAt gm M an al cn cl w) (hlv : ∀ q ∈ xs, sds q.kd = 0 → lfK q ≠ 0) (hst : hasS M.ns xs = true) (p : Pt) (ts : List Ex) (W : World) (hp : p ∈ xs) (hs : ts.length = sds p.kd) (hb : Below w.heap.size w W) :
    Calls Tryz.prog 35 #[.pointer (some ⟨gm, 0, none⟩), p.v, .agg (rowC p.kd), .agg (sdCV (ts.map (Ex.val (vlv M))))] W fun e w' => e = .returned (.agg (vlE ((vlv M) p (ts.map (Ex.val (vlv M))))).toArray) ∧ Below W.heap.size W w' := by
  have h2 := sds_le p.kd
  have hk : sds p.kd ≠ 0 → 4 ≤ p.kd ∧ p.kd ≤ 13 := fun h => by
    rcases (show sds p.kd = 1 ∨ sds p.kd = 2 by omega) with e | e
    · have := sds_one e; omega
    · have := sds_two e; omega
  match ts, hs with
  | [], hs =>
    have hq := List.all_eq_true.1 hst p hp
    simp only [Bool.or_eq_true] at hq
    exact valueOf_leaf p W hs.symm (hM.below hb) (hlv p hp hs.symm) hq
  | [a], hs =>
    have h0 : sds p.kd ≠ 0 := by rw [← hs]; simp
    obtain ⟨EF, e1, e2, e3⟩ := opf_any p.kd (hk h0).1 (hk h0).2 (a.val (vlv M)) ⟨0, noB, false⟩
    exact valueOf_op p (a.val (vlv M)) ⟨0, noB, false⟩ _ EF W h0 e1 e2 e3
  | [a, b], hs =>
    have h0 : sds p.kd ≠ 0 := by rw [← hs]; simp
    obtain ⟨EF, e1, e2, e3⟩ := opf_any p.kd (hk h0).1 (hk h0).2 (a.val (vlv M)) (b.val (vlv M))
    exact valueOf_op p (a.val (vlv M)) (b.val (vlv M)) _ EF W h0 e1 e2 e3
  | a :: b :: c :: r, hs => simp at hs; omega
theorem fold_values {gm : Nat} {M : Mo} {an al : Option Addr} {cn cl : Nat} (ad : Option Addr) (cap : Nat) (xs : List Pt) (hsz : xs.length ≤ 200) (w : World) (hc : PtsAt w ad xs) (hM : MoAt gm M an al cn cl w) (hlv : ∀ q ∈ xs, sds q.kd = 0 → lfK q ≠ 0) (hst : hasS M.ns xs = true) :
    Calls Tryz.prog 34 #[.slice ad xs.length cap, .func (.func 35) #[.pointer (some ⟨gm, 0, none⟩)] #[]] w fun e w' => e = .returned (foRV (fdX (vlv M) xs)) ∧ Below w.heap.size w w' :=
  callsIn_wide.1 (foldV_in 35 ad cap xs hsz w (PtsLow.of hc) (enters_of Tryz.func35 (by kernel_rfl) rfl) (fun p ts W hp _ _ hs hb => valueOf_each hM hlv hst p ts W hp hs hb))
end Go.Proofs.YthipclehhcfahaaGreatDoor
namespace Go.Proofs.YthipclehhcfahaaGreatDoor
open Go.RowKit Go.Shelf

def okS (ns : List ByteArray) (p : Pt) : Bool := emptyB p.st || hasN ns p.st
theorem hasS_def (ns : List ByteArray) (x : List Pt) : hasS ns x = x.all (okS ns) := rfl
theorem all_take_next {xs : List Pt} {f : Pt → Bool} {k : Nat} (h : (xs.take k).all f = true) (hk : k < xs.length) (hf : f xs[k] = true) : (xs.take (k + 1)).all f = true := by
  rw [List.take_succ_eq_append_getElem hk, List.all_append, h]
  simp [hf]
theorem all_no {xs : List Pt} {f : Pt → Bool} {k : Nat} (hk : k < xs.length) (hf : f xs[k] = false) : xs.all f = false := by
  rw [List.all_eq_false]
  exact ⟨xs[k], List.getElem_mem _, by rw [hf]; simp⟩
theorem part_cells {w W : World} {a b c d e : Value} {t : TypeId} (hk : Kp [] (w.alloc (.cells #[a, b, c, d, e] t)) W) : W.cell? ⟨w.heap.size, 3, none⟩ = some d := ((CBox.new w #[a, b, c, d, e] t).kp hk (by simp)).cell rfl
set_option maxHeartbeats 2000000 in
set_option maxRecDepth 100000 in
theorem hasStages_any {gm : Nat} {M : Mo} {an : Option Addr} {cn : Nat} {nl lv : Value} (ad : Option Addr) (cap : Nat) (xs : List Pt) (hsz : xs.length ≤ 200) (W : World) (hc : PtsAt W ad xs) (hbx : CBox gm (moC M nl lv) 79 W) (hnl : nl = .slice an M.ns.length cn) (hln : M.ns.length ≤ 9223372036854775807) (hnm : NmsAt W an M.ns) :
    Calls Tryz.prog 33 #[.pointer (some ⟨gm, 0, none⟩), .slice ad xs.length cap] W fun e w' => e = .returned (.bool (hasS M.ns xs)) ∧ Below W.heap.size W w' := by
  subst hnl
  rw [hasS_def]
  have HNO : Hid (∀ k (hk : k < xs.length), okS M.ns xs[k] = false → xs.all (okS M.ns) = false) := hide (fun k hk hf => all_no hk hf)
  have HNX : Hid (∀ k (hk : k < xs.length), (xs.take k).all (okS M.ns) = true → okS M.ns xs[k] = true → (xs.take (k + 1)).all (okS M.ns) = true) := hide (fun k hk h hf => all_take_next h hk hf)
  have HYS : Hid ((xs.take xs.length).all (okS M.ns) = true → xs.all (okS M.ns) = true) := hide (fun h => by rwa [List.take_length] at h)
  have HF : Hid (∀ w1, Below W.heap.size W w1 → w1.cell? ⟨gm, 7, none⟩ = some (.slice an M.ns.length cn) ∧ gm < w1.heap.size ∧ Hid (NmsAt w1 an M.ns) ∧ Hid (PtsAt w1 ad xs)) := hide (fun w1 hb => ⟨(Kp.ofBelow hb).cell (hbx.cell rfl) (by simp), by have := (Array.getElem?_eq_some_iff.1 hbx).1; have := hb.size; omega, hide (hnm.kp (Kp.ofBelow hb) (by simp)), hide (hc.kp (Kp.ofBelow hb))⟩)
  clear hc hbx hnm
  obtain ⟨R, hR⟩ : ∃ R, xs.all (okS M.ns) = R := ⟨_, rfl⟩
  rw [hR] at HNO HYS ⊢
  clear hR
  obtain ⟨n, hn⟩ : ∃ n, xs.length = n := ⟨_, rfl⟩
  have HN := hide hn
  rw [hn] at HYS hsz ⊢
  clear hn
  go_enter Tryz.func33, Tryz.ntmps33
  go_wp2
  go_loopw [9] (fun i wr => ∃ k : Nat, k ≤ n ∧ i = .int .i64 (k : Int) ∧ Below W.heap.size W wr ∧ Hid ((xs.take k).all (okS M.ns) = true)) (fun i _ => n - (intOf i).toNat)
  case atStart => exact ⟨0, Nat.zero_le _, rfl, Below.refl _ _, hide (by simp)⟩
  case round =>
    obtain ⟨k, hk, rfl, hb, HK⟩ := hrel
    by_cases hlt : k < n
    · have hkx : k < xs.length := by rw [unhide HN]; exact hlt
      obtain ⟨_, _, _, HP⟩ := unhide HF wr hb
      obtain ⟨b, off, rfl, hbl, x0, x1, x2, x3, x4⟩ := (unhide HP).at k hkx
      have HNO2 : Hid (okS M.ns xs[k] = false → R = false) := hide (unhide HNO k hkx)
      have HNX2 : Hid (okS M.ns xs[k] = true → (xs.take (k + 1)).all (okS M.ns) = true) := hide (unhide HNX k hkx (unhide HK))
      have hok : okS M.ns xs[k] = (emptyB xs[k].st || hasN M.ns xs[k].st) := rfl
      rw [hok] at HNO2 HNX2
      have hli : (k : Int) < (n : Int) := by omega
      clear hok HP HNO HNX HYS HK
      generalize xs[k] = p at *
      obtain ⟨pk, pn, ps, pt, pf⟩ := p
      dsimp only at x0 x1 x2 x3 x4 HNO2 HNX2
      have hb2 : Below W.heap.size W (wr.alloc (.cells #[.int .i64 pk, .int .i64 pn, .string ps, .string pt, .int .i64 pf] 53)) := hb.alloc hb.size _
      have hbd : Below W.heap.size W (wr.alloc (.cells #[.int .i64 pk, .int .i64 pn, .string ps, .string pt, .int .i64 pf] 53)).drew := hb2.drew
      have c3 : (wr.alloc (.cells #[.int .i64 pk, .int .i64 pn, .string ps, .string pt, .int .i64 pf] 53)).drew.cell? ⟨wr.heap.size, 3, none⟩ = some (.string pt) := (CBox.new wr _ _).cell rfl
      obtain ⟨c7, hgl, HNM, _⟩ := unhide HF _ hbd
      have CT := hide (contains_any an cn M.ns pt _ hln (unhide HNM))
      have HBD := hide hbd
      have hgw := (unhide HF wr hb).2.1
      clear hb hb2 hbd HNM HF
      go_wp2_with fail
      generalize wr.alloc (.cells #[.int .i64 pk, .int .i64 pn, .string ps, .string pt, .int .i64 pf] 53) = W2 at *
      clear x0 x1 x2 x3 x4
      by_cases he : emptyB pt = true
      · have g1 : pt.toList.isEmpty = true := by rw [emp_toList]; exact he
        have g2 : (pt.toList == ([] : List UInt8)) = true := by rw [emp_str]; exact he
        rw [he, Bool.true_or] at HNX2
        have HX := hide (unhide HNX2 rfl)
        have c3' : W2.cell? ⟨wr.heap.size, 3, none⟩ = some (.string pt) := c3
        clear HNX2 HNO2 he CT c3
        go_quiet (fail)
        go_wp2
        go_roundw
        case rel => exact ⟨k + 1, by omega, by go_num, (unhide HBD).trans ⟨rfl, rfl, rfl, Nat.le_refl _, fun _ _ => rfl⟩, HX⟩
        case measure => simp [intOf]; omega
      · have he' : emptyB pt = false := by simpa using he
        have g1 : pt.toList.isEmpty = false := by rw [emp_toList]; exact he'
        have g2 : (pt.toList == ([] : List UInt8)) = false := by rw [emp_str]; exact he'
        rw [he', Bool.false_or] at HNX2 HNO2
        generalize hasN M.ns pt = B at *
        generalize M.ns.length = NL at *
        have cS := And.intro c3 c7
        clear he he' c3 c7
        generalize wr.heap.size = G at *
        go_region_held3 (fun w' => w'.cell? ⟨G, 3, none⟩ = some (.string pt) ∧ w'.cell? ⟨gm, 7, none⟩ = some (.slice an NL cn))
          (first | with_reducible exact cS)
          (first | (go_at_call 32; refine (unhide CT).mono ?_; rintro e w2 ⟨rfl, rfl⟩))
        clear cS CT
        cases B with
        | true =>
          have HX := hide (unhide HNX2 rfl)
          clear HNX2 HNO2
          go_wp2
          go_roundw
          case rel => exact ⟨k + 1, by omega, by go_num, (unhide HBD), HX⟩
          case measure => simp [intOf]; omega
        | false =>
          obtain rfl := unhide HNO2 rfl
          clear HNX2 HNO2
          go_wp2
          go_ret
          exact ⟨rfl, unhide HBD⟩
    · obtain rfl : k = n := by omega
      obtain rfl := unhide HYS (unhide HK)
      clear HYS HNO
      go_wp2
      go_ret
      exact ⟨rfl, hb⟩
end Go.Proofs.YthipclehhcfahaaGreatDoor
namespace Go.Proofs.YthipclehhcfahaaGreatDoor
open Go.RowKit Go.Shelf

theorem hold_kind {x : List Pt} {M : Mo} (h : ckK x ≠ 3) : hdE x M = 110 ∧ hdB x M = false := by
  have e : hdE x M = 110 := by unfold hdE; rw [if_pos h]
  exact ⟨e, by unfold hdB; rw [if_pos (by rw [e]; decide)]⟩
theorem hold_none {x : List Pt} {M : Mo} (h : ckK x = 3) (h2 : M.ns.length ≠ M.la.length ∨ hasS M.ns x = false) : hdE x M = 5 ∧ hdB x M = false := by
  have e : hdE x M = 5 := by unfold hdE; rw [if_neg (by rw [h]; decide), if_pos h2]
  exact ⟨e, by unfold hdB; rw [if_pos (by rw [e]; decide)]⟩
theorem hold_ok {x : List Pt} {M : Mo} (h : ckK x = 3) (h1 : M.ns.length = M.la.length) (h2 : hasS M.ns x = true) : hdE x M = 0 ∧ ∃ v, fdX (vlv M) x = some v ∧ hdB x M = v.t := by
  have e : hdE x M = 0 := by unfold hdE; rw [if_neg (by rw [h]; decide), if_neg (by rw [h1, h2]; simp)]
  obtain ⟨t, t1, _, t3, _⟩ := ckK_leaves (x := x) (by rw [h]; decide)
  refine ⟨e, t.val (vlv M), by rw [t3]; exact fdX_flat _ t t1, ?_⟩
  unfold hdB
  rw [if_neg (by rw [e]; decide), t3, fdX_flat _ t t1]
set_option maxHeartbeats 2000000 in
set_option maxRecDepth 100000 in
theorem holds_any (ad an al : Option Addr) (cap cn cl : Nat) (xs : List Pt) (ev : Ev) (ns : List ByteArray) (la : List Ev) (w : World) (hc : PtsAt w ad xs) (hn : NmsAt w an ns) (hln : ns.length ≤ 9223372036854775807) (he : EvsAt w al la) (hT : TbE w) (hfit : ∀ p ∈ xs, p.fit) :
    Calls Tryz.prog 19 #[.slice ad xs.length cap, .agg ev.c, .slice an ns.length cn, .slice al la.length cl] w fun e w' => e = .returned (.tuple #[.bool (hdB xs ⟨ev, ns, la⟩), .int .i64 (hdE xs ⟨ev, ns, la⟩)]) ∧ Below w.heap.size w w' := by
  have hev : ev.c = #[.string ev.k, .string ev.t, .int .i64 ev.n0, .int .i64 ev.n1, .int .i64 ev.n2, .int .i64 ev.n3, .string ev.x] := rfl
  have b1 : Below w.heap.size w (w.alloc (.cells ev.c 37)) := (Below.refl _ _).alloc (Nat.le_refl _) _
  have e1 : EBox w.heap.size ev (w.alloc (.cells ev.c 37)) := CBox.new w _ _
  have CK := check_any ad cap xs _ (hc.kp (Kp.alloc w (.cells ev.c 37))) (hT.alloc (.cells ev.c 37)) hfit
  have HL : Hid (∀ w2, Below (w.alloc (.cells ev.c 37)).heap.size (w.alloc (.cells ev.c 37)) w2 → EBox w.heap.size ev w2 ∧ Hid (Below w.heap.size w w2) ∧ Hid (PtsAt w2 ad xs ∧ NmsAt w2 an ns ∧ EvsAt w2 al la)) := hide (fun w2 hb => ⟨e1.below hb e1.lt, hide (b1.trans (hb.mono (by simp))), hide ⟨(hc.kp (Kp.alloc w (.cells ev.c 37))).kp (Kp.ofBelow hb), (hn.kp (Kp.alloc w (.cells ev.c 37)) (by simp)).kp (Kp.ofBelow hb) (by simp), (he.kp (Kp.alloc w (.cells ev.c 37)) (by simp)).kp (Kp.ofBelow hb) (by simp)⟩⟩)
  rw [hev] at CK HL
  have HCK := hide CK
  clear CK b1 e1 hc hn he hT
  rw [hev]
  clear hev
  by_cases h3 : ckK xs = 3
  · have hcode : (if ckK xs = 0 then (110 : Int) else 0) = 0 := if_neg (by rw [h3]; decide)
    rw [hcode, h3] at HCK
    clear hcode
    obtain ⟨t, t1, t2, t3, _, t5, _⟩ := ckK_leaves (x := xs) (by rw [h3]; decide)
    have HLV : Hid (∀ q ∈ xs, sds q.kd = 0 → lfK q ≠ 0) := hide (by rw [t3]; exact t.fine_leaves t2)
    clear t1 t2 t3
    have HN0 : Hid (ns.length ≠ la.length ∨ hasS ns xs = false → hdE xs ⟨ev, ns, la⟩ = 5 ∧ hdB xs ⟨ev, ns, la⟩ = false) := hide (fun h => hold_none h3 h)
    have HOKK : Hid (ns.length = la.length → hasS ns xs = true → hdE xs ⟨ev, ns, la⟩ = 0 ∧ ∃ v, fdX (vlv ⟨ev, ns, la⟩) xs = some v ∧ hdB xs ⟨ev, ns, la⟩ = v.t) := hide (fun h1 h2 => hold_ok h3 h1 h2)
    obtain ⟨D, hD⟩ : ∃ D, hdE xs ⟨ev, ns, la⟩ = D := ⟨_, rfl⟩
    obtain ⟨B, hB⟩ : ∃ B, hdB xs ⟨ev, ns, la⟩ = B := ⟨_, rfl⟩
    rw [hD, hB] at HN0 HOKK ⊢
    clear hD hB h3
    go_enter Tryz.func19, Tryz.ntmps19
    go_wp2_with fail
    refine (unhide HCK).mono ?_
    rintro e w2 ⟨rfl, hb2⟩
    obtain ⟨eb, HB, HAT⟩ := unhide HL w2 hb2
    obtain ⟨v0, v1, v2, v3, v4, v5, v6⟩ := eb.cells
    have hlt := eb.lt
    clear HCK HL hb2 eb hfit
    by_cases hll : ns.length = la.length
    · have gl : ((ns.length : Int) == (la.length : Int)) = true := by rw [hll]; exact beq_self_eq_true _
      obtain ⟨hA, hN, hE⟩ := unhide HAT
      have k2 : Kp [] w2 (w2.alloc (.cells (moC ⟨ev, ns, la⟩ (.slice an ns.length cn) (.slice al la.length cl)) 79)) := Kp.alloc _ _
      have bx : CBox w2.heap.size (moC ⟨ev, ns, la⟩ (.slice an ns.length cn) (.slice al la.length cl)) 79 (w2.alloc (.cells (moC ⟨ev, ns, la⟩ (.slice an ns.length cn) (.slice al la.length cl)) 79)) := CBox.new w2 _ _
      have hM : MoAt w2.heap.size ⟨ev, ns, la⟩ an al cn cl (w2.alloc (.cells (moC ⟨ev, ns, la⟩ (.slice an ns.length cn) (.slice al la.length cl)) 79)) := ⟨bx, hN.kp k2 (by simp), hE.kp k2 (by simp), hln, hll⟩
      have HS := hasStages_any (M := ⟨ev, ns, la⟩) ad cap xs t5 _ (hA.kp k2) bx rfl hln (hN.kp k2 (by simp))
      have HB3 := hide ((unhide HB).alloc (unhide HB).size (.cells (moC ⟨ev, ns, la⟩ (.slice an ns.length cn) (.slice al la.length cl)) 79))
      have HFV : Hid (hasS ns xs = true → ∀ w3, Below (w2.alloc (.cells (moC ⟨ev, ns, la⟩ (.slice an ns.length cn) (.slice al la.length cl)) 79)).heap.size (w2.alloc (.cells (moC ⟨ev, ns, la⟩ (.slice an ns.length cn) (.slice al la.length cl)) 79)) w3 → Calls Tryz.prog 34 #[.slice ad xs.length cap, .func (.func 35) #[.pointer (some ⟨w2.heap.size, 0, none⟩)] #[]] w3 fun e w' => e = .returned (foRV (fdX (vlv ⟨ev, ns, la⟩) xs)) ∧ Below w3.heap.size w3 w') := hide (fun hs w3 hb3 => fold_values (M := ⟨ev, ns, la⟩) ad cap xs t5 w3 ((hA.kp k2).kp (Kp.ofBelow hb3)) (hM.below hb3) (unhide HLV) hs)
      have HHS : Hid (Calls Tryz.prog 33 #[.pointer (some ⟨w2.heap.size, 0, none⟩), .slice ad xs.length cap] (w2.alloc (.cells (moC ⟨ev, ns, la⟩ (.slice an ns.length cn) (.slice al la.length cl)) 79)) fun e w' => e = .returned (.bool (hasS ns xs)) ∧ Below (w2.alloc (.cells (moC ⟨ev, ns, la⟩ (.slice an ns.length cn) (.slice al la.length cl)) 79)).heap.size (w2.alloc (.cells (moC ⟨ev, ns, la⟩ (.slice an ns.length cn) (.slice al la.length cl)) 79)) w') := hide HS
      have HOK2 := hide (unhide HOKK hll)
      have HNO2 : Hid (hasS ns xs = false → D = 5 ∧ B = false) := hide (fun h => unhide HN0 (Or.inr h))
      clear HAT hA hN hE k2 bx hM HS HN0 HOKK HLV HB
      unfold moC at HHS HFV HB3
      dsimp only at HHS HFV HB3
      rw [hll] at HHS HFV HB3 ⊢
      clear gl
      generalize fdX (vlv ⟨ev, ns, la⟩) xs = FX at *
      generalize hasS ns xs = SB at *
      go_wp2_with fail
      refine (unhide HHS).mono ?_
      rintro e w3 ⟨rfl, hb3⟩
      have HB4 := hide ((unhide HB3).trans (hb3.mono (unhide HB3).size))
      cases SB with
      | false =>
        obtain ⟨rfl, rfl⟩ := unhide HNO2 rfl
        clear HOK2 HNO2 HFV HHS HB3 hb3
        go_wp2
        exact bodyPost_ret (results_tmp2 rfl _ _ _) rfl ⟨rfl, unhide HB4⟩
      | true =>
        have FV := hide (unhide HFV rfl w3 hb3)
        obtain ⟨rfl, v, hv, rfl⟩ := unhide HOK2 rfl
        rw [hv] at FV
        unfold foRV vlE at FV
        dsimp only at FV
        clear HOK2 HNO2 HFV HHS HB3 hb3 hv
        obtain ⟨vn, vs, vt⟩ := v
        dsimp only at FV ⊢
        go_wp2_with fail
        refine (unhide FV).mono ?_
        rintro e w4 ⟨rfl, hb4⟩
        have HB5 := hide (((unhide HB4).trans (hb4.mono (unhide HB4).size)).alloc (by have := (unhide HB4).size; have := hb4.size; omega) (.cells #[.int .i64 vn, .string vs, .bool vt] 81))
        clear hb4 HB4 FV
        go_wp2
        exact bodyPost_ret (results_tmp2 rfl _ _ _) rfl ⟨rfl, unhide HB5⟩
    · have gl : ((ns.length : Int) == (la.length : Int)) = false := beq_eq_false_iff_ne.2 (by omega)
      obtain ⟨rfl, rfl⟩ := unhide HN0 (Or.inl hll)
      have HB3 := hide ((unhide HB).alloc (unhide HB).size (.cells (moC ⟨ev, ns, la⟩ (.slice an ns.length cn) (.slice al la.length cl)) 79))
      clear HN0 HOKK HAT HLV HB
      go_wp2
      exact bodyPost_ret (results_tmp2 rfl _ _ _) rfl ⟨rfl, unhide HB3⟩
  · obtain ⟨q1, q2⟩ := hold_kind (M := ⟨ev, ns, la⟩) h3
    rw [q1, q2]
    clear q1 q2
    have g3 : (ckK xs == 3) = false := beq_eq_false_iff_ne.2 h3
    generalize (if ckK xs = 0 then (110 : Int) else 0) = EC at *
    generalize ckK xs = ck at *
    go_enter Tryz.func19, Tryz.ntmps19
    go_wp2_with fail
    refine (unhide HCK).mono ?_
    rintro e w2 ⟨rfl, hb2⟩
    obtain ⟨eb, HB, HAT⟩ := unhide HL w2 hb2
    clear HCK HL hb2 eb hfit
    go_wp2
    exact bodyPost_ret (results_tmp2 rfl _ _ _) rfl ⟨rfl, unhide HB⟩
end Go.Proofs.YthipclehhcfahaaGreatDoor
