/-
  A part's value, of those of its sides; the fold of values.
  hasStages: have all stages that are asked for their names there; Holds.
  Stages: which stages an expression asks for, as the plain function has it.
-/
import Derived.Test.YthipclehhcfahabGreatDoorHPA30
import Derived.Test.YthipclehhcfahabGreatDoorHPA20
import Derived.Deep.QuietTactic
import Derived.Test.YthipclehhcfahabGreatDoorHPA22
namespace Go.Proofs.YthipclehhcfahabGreatDoor
open Go.RowKit Go.Shelf

theorem vo_at (w : World) (A B C X : Obj) : ((((w.alloc A).alloc B).alloc C).alloc X).heap[w.heap.size + 1 + 1 + 1]? = some X := by
  have := heap_alloc_new (((w.alloc A).alloc B).alloc C) X
  rwa [show (((w.alloc A).alloc B).alloc C).heap.size = w.heap.size + 1 + 1 + 1 by simp] at this
theorem vo_all (w : World) (A B C X : Obj) : Below w.heap.size w ((((w.alloc A).alloc B).alloc C).alloc X) :=
  ((((Below.refl _ _).alloc (Nat.le_refl _) _).alloc (by simp) _).alloc (by simp; omega) _).alloc (by simp; omega) _
theorem vo_kp (w : World) (A B C X : Obj) : Kp [] w ((((w.alloc A).alloc B).alloc C).alloc X) := (((Kp.alloc _ _).trans (Kp.alloc _ _) (by simp)).trans (Kp.alloc _ _) (by simp)).trans (Kp.alloc _ _) (by simp)
theorem vl_put3 {g B : Nat} {t : TypeId} {a b c : Value} {w W : World} (hB : B ≤ g) (h : CBox g #[a, b, c] t W) (hb : Below B w W) (x y z : Value) :
    CBox g #[x, y, z] t (((W.setCell ⟨g, 0, none⟩ x).setCell ⟨g, 1, none⟩ y).setCell ⟨g, 2, none⟩ z) ∧ Below B w (((W.setCell ⟨g, 0, none⟩ x).setCell ⟨g, 1, none⟩ y).setCell ⟨g, 2, none⟩ z) :=
  ⟨((h.set 0 x).set 1 y).set 2 z, ((hb.setCell (p := ⟨g, 0, none⟩) hB _).setCell (p := ⟨g, 1, none⟩) hB _).setCell (p := ⟨g, 2, none⟩) hB _⟩
/-- What lies there behind a call, where the answer is written. -/
theorem vo_left {w W : World} {A B C : Obj} {r0 r1 r2 : Value} {t : TypeId} (hb : Below ((((w.alloc A).alloc B).alloc C).alloc (.cells #[r0, r1, r2] t)).heap.size ((((w.alloc A).alloc B).alloc C).alloc (.cells #[r0, r1, r2] t)) W) :
    (W.cell? ⟨w.heap.size + 1 + 1 + 1, 0, none⟩ = some r0 ∧ W.cell? ⟨w.heap.size + 1 + 1 + 1, 1, none⟩ = some r1 ∧ W.cell? ⟨w.heap.size + 1 + 1 + 1, 2, none⟩ = some r2 ∧ (∀ i, W.frozen? ⟨w.heap.size + 1 + 1 + 1, i, none⟩ = false)) ∧ w.heap.size + 1 + 1 + 1 < W.heap.size ∧ Hid (∀ x y z, CBox (w.heap.size + 1 + 1 + 1) #[x, y, z] t (((W.setCell ⟨w.heap.size + 1 + 1 + 1, 0, none⟩ x).setCell ⟨w.heap.size + 1 + 1 + 1, 1, none⟩ y).setCell ⟨w.heap.size + 1 + 1 + 1, 2, none⟩ z) ∧ Below w.heap.size w (((W.setCell ⟨w.heap.size + 1 + 1 + 1, 0, none⟩ x).setCell ⟨w.heap.size + 1 + 1 + 1, 1, none⟩ y).setCell ⟨w.heap.size + 1 + 1 + 1, 2, none⟩ z)) := by
  have h : CBox (w.heap.size + 1 + 1 + 1) #[r0, r1, r2] t W := CBox.kp (vo_at w A B C _) (Kp.ofBelow hb) (by simp)
  exact ⟨⟨h.cell rfl, h.cell rfl, h.cell rfl, h.froz⟩, (Array.getElem?_eq_some_iff.1 h).1, hide (vl_put3 (by omega) h ((vo_all w A B C _).trans (hb.mono (by simp; omega))))⟩
set_option maxHeartbeats 2000000 in
set_option maxRecDepth 100000 in
theorem valueOf_op {gm : Nat} (p : Pt) (a b R : Vl) (EF : Nat) (w : World) (h0 : sds p.kd ≠ 0) (hfn : fnO p.kd = .func (.func EF) #[] #[])
    (hen : ∀ args W, (callFunc EF args).run Tryz.prog W = .ok (.enter EF args) W) (HC : ∀ W, Calls Tryz.prog EF #[a.v, b.v] W fun e w' => e = .returned R.v ∧ Below W.heap.size W w') :
    Calls Tryz.prog 30 #[.pointer (some ⟨gm, 0, none⟩), p.v, .agg (rowC p.kd), .agg #[.int .i64 a.n, .string a.s, .bool a.t, .int .i64 b.n, .string b.s, .bool b.t]] w fun e w' => e = .returned R.v ∧ Below w.heap.size w w' := by
  have hs0 : ((0 : Int) < (sds p.kd : Nat)) := by omega
  have HEN := hide hen
  have HCC := hide HC
  unfold rowC
  rw [hfn]
  generalize txt (sgO p.kd) = S at *
  generalize ofO p.kd = O at *
  generalize isO p.kd = I at *
  generalize sds p.kd = N at *
  clear hen HC hfn h0
  obtain ⟨kd, n, s, st, fl⟩ := p
  obtain ⟨an, as_, at_⟩ := a
  obtain ⟨bn, bs, bt⟩ := b
  obtain ⟨rn, rs, rt⟩ := R
  unfold Pt.v Vl.v at *
  dsimp only at *
  go_enter Tryz.func30, Tryz.ntmps30
  go_wp2_with fail
  rw [unhide HEN, Oper.upon_enter]
  refine (unhide HCC _).mono ?_
  rintro e w1 ⟨rfl, hb1⟩
  obtain ⟨⟨r0, r1, r2, rf⟩, hlt, HX⟩ := vo_left hb1
  clear hb1 HCC HEN
  dsimp only
  go_wp2
  exact bodyPost_ret (results_cell_row Tryz.results30 _ _ (w.heap.size + 1 + 1 + 1) 75 _ (0, 0) _ rfl (unhide HX _ _ _).1 Tryz.underlying75 rfl info_vl) rfl ⟨rfl, (unhide HX _ _ _).2⟩
set_option maxHeartbeats 2000000 in
set_option maxRecDepth 100000 in
theorem valueOf_leaf {gm : Nat} {M : Mo} {an al : Option Addr} {cn cl : Nat} (p : Pt) (w : World) (h0 : sds p.kd = 0) (hM : MoAt gm M an al cn cl w) (hl : lfK p ≠ 0) (hs : emptyB p.st = true ∨ hasN M.ns p.st = true) :
    Calls Tryz.prog 30 #[.pointer (some ⟨gm, 0, none⟩), p.v, .agg (rowC p.kd), .agg #[.int .i64 0, .string { data := #[] }, .bool false, .int .i64 0, .string { data := #[] }, .bool false]] w fun e w' => e = .returned (lfV M p).v ∧ Below w.heap.size w w' := by
  have hone := fnO_one p.kd
  have hx := lfK_ne hl
  have HFV : Hid (p.kd = 3 → ∀ W, Below w.heap.size w W → Calls Tryz.prog 59 #[.pointer (some ⟨gm, 0, none⟩), .string p.st, .int .i64 p.fl] W fun e w' => e = .returned (fdV (M.at p.st) p.fl).v ∧ Below W.heap.size W w') := hide (fun hk W hb => fieldValue_any (hM.below hb) p.st p.fl (by
    rcases hx with ⟨e, _⟩ | ⟨e, _⟩ | ⟨_, a, b, _⟩
    · omega
    · omega
    · exact ⟨a, b⟩) hs)
  have hkd : p.kd = 1 ∨ p.kd = 2 ∨ p.kd = 3 := by
    rcases hx with ⟨e, _⟩ | ⟨e, _⟩ | ⟨e, _⟩
    · exact Or.inl e
    · exact Or.inr (Or.inl e)
    · exact Or.inr (Or.inr e)
  have HLV : Hid (lfV M p = if p.kd = 1 then ⟨p.n, noB, false⟩ else if p.kd = 2 then ⟨0, p.s, false⟩ else fdV (M.at p.st) p.fl) := hide rfl
  obtain ⟨F3, hF3⟩ : ∃ F3, fdV (M.at p.st) p.fl = F3 := ⟨_, rfl⟩
  rw [hF3] at HFV HLV
  obtain ⟨LV, hLV⟩ : ∃ LV, lfV M p = LV := ⟨_, rfl⟩
  rw [hLV] at HLV ⊢
  unfold rowC
  rw [h0]
  generalize fnO p.kd = F at *
  generalize txt (sgO p.kd) = S at *
  generalize ofO p.kd = O at *
  generalize isO p.kd = I at *
  clear hM hl hs hx h0 hF3 hLV
  obtain ⟨kd, n, s, st, fl⟩ := p
  unfold Pt.v
  dsimp only at *
  rcases hkd with rfl | rfl | rfl
  · obtain rfl : LV = ⟨n, noB, false⟩ := (unhide HLV).trans (if_pos rfl)
    clear HFV HLV
    unfold Vl.v noB
    dsimp only
    go_enter Tryz.func30, Tryz.ntmps30
    go_wp2
    exact bodyPost_ret (results_cell_row Tryz.results30 _ _ (w.heap.size + 1 + 1 + 1) 75 _ (0, 0) _ rfl (vo_at w _ _ _ _) Tryz.underlying75 rfl info_vl) rfl ⟨rfl, vo_all w _ _ _ _⟩
  · obtain rfl : LV = ⟨0, s, false⟩ := (unhide HLV).trans ((if_neg (by decide)).trans (if_pos rfl))
    clear HFV HLV
    unfold Vl.v
    dsimp only
    go_enter Tryz.func30, Tryz.ntmps30
    go_wp2
    exact bodyPost_ret (results_cell_row Tryz.results30 _ _ (w.heap.size + 1 + 1 + 1) 75 _ (0, 0) _ rfl (vo_at w _ _ _ _) Tryz.underlying75 rfl info_vl) rfl ⟨rfl, vo_all w _ _ _ _⟩
  · obtain rfl : LV = F3 := (unhide HLV).trans ((if_neg (by decide)).trans (if_neg (by decide)))
    have HFV2 := hide (unhide HFV rfl)
    clear HFV HLV
    obtain ⟨rn, rs, rt⟩ := LV
    unfold Vl.v at *
    dsimp only at *
    go_enter Tryz.func30, Tryz.ntmps30
    go_wp2_with fail
    refine (unhide HFV2 _ (vo_all w _ _ _ _)).mono ?_
    rintro e w1 ⟨rfl, hb1⟩
    obtain ⟨⟨r0, r1, r2, rf⟩, hlt, HX⟩ := vo_left hb1
    clear hb1 HFV2
    go_wp2
    exact bodyPost_ret (results_cell_row Tryz.results30 _ _ (w.heap.size + 1 + 1 + 1) 75 _ (0, 0) _ rfl (unhide HX _ _ _).1 Tryz.underlying75 rfl info_vl) rfl ⟨rfl, (unhide HX _ _ _).2⟩
theorem opf_any (k : Int) (h4 : 4 ≤ k) (h13 : k ≤ 13) (a b : Vl) : ∃ EF, fnO k = .func (.func EF) #[] #[] ∧ (∀ args W, (callFunc EF args).run Tryz.prog W = .ok (.enter EF args) W) ∧ ∀ W, Calls Tryz.prog EF #[a.v, b.v] W fun e w' => e = .returned (opV k a b).v ∧ Below W.heap.size W w' := by
  rcases (show k = 4 ∨ k = 5 ∨ k = 6 ∨ k = 7 ∨ k = 8 ∨ k = 9 ∨ k = 10 ∨ k = 11 ∨ k = 12 ∨ k = 13 by omega) with rfl | rfl | rfl | rfl | rfl | rfl | rfl | rfl | rfl | rfl
  · exact ⟨96, rfl, enters_of Tryz.func96 (by kernel_rfl) rfl, opf1 a b⟩
  · exact ⟨97, rfl, enters_of Tryz.func97 (by kernel_rfl) rfl, opf2 a b⟩
  · exact ⟨98, rfl, enters_of Tryz.func98 (by kernel_rfl) rfl, opf3 a b⟩
  · exact ⟨99, rfl, enters_of Tryz.func99 (by kernel_rfl) rfl, opf4 a b⟩
  · exact ⟨100, rfl, enters_of Tryz.func100 (by kernel_rfl) rfl, opf5 a b⟩
  · exact ⟨101, rfl, enters_of Tryz.func101 (by kernel_rfl) rfl, opf6 a b⟩
  · exact ⟨102, rfl, enters_of Tryz.func102 (by kernel_rfl) rfl, opf7 a b⟩
  · exact ⟨103, rfl, enters_of Tryz.func103 (by kernel_rfl) rfl, opf8 a b⟩
  · exact ⟨104, rfl, enters_of Tryz.func104 (by kernel_rfl) rfl, opf9 a b⟩
  · exact ⟨105, rfl, enters_of Tryz.func105 (by kernel_rfl) rfl, opf10 a b⟩
/-- The value of a part that may be. -/
theorem valueOf_each {gm : Nat} {M : Mo} {an al : Option Addr} {cn cl : Nat} {xs : List Pt} {w : World} (hM : MoAt gm M an al cn cl w) (hlv : ∀ q ∈ xs, sds q.kd = 0 → lfK q ≠ 0) (hst : hasS M.ns xs = true) (p : Pt) (ts : List Ex) (W : World) (hp : p ∈ xs) (hs : ts.length = sds p.kd) (hb : Below w.heap.size w W) :
    Calls Tryz.prog 30 #[.pointer (some ⟨gm, 0, none⟩), p.v, .agg (rowC p.kd), .agg (sdCV (ts.map (Ex.val (vlv M))))] W fun e w' => e = .returned (.agg (vlE ((vlv M) p (ts.map (Ex.val (vlv M))))).toArray) ∧ Below W.heap.size W w' := by
  have h2 := sds_le p.kd
  have hk : sds p.kd ≠ 0 → 4 ≤ p.kd ∧ p.kd ≤ 13 := fun h => by
    rcases (show sds p.kd = 1 ∨ sds p.kd = 2 by omega) with e | e
    · have := sds_one e; omega
    · have := sds_two e; omega
  match ts, hs with
  | [], hs =>
    have hq := List.all_eq_true.1 hst p hp
    simp only [Bool.or_eq_true] at hq
    exact valueOf_leaf p W hs.symm (hM.below hb) (hlv p hp hs.symm) hq
  | [a], hs =>
    have h0 : sds p.kd ≠ 0 := by rw [← hs]; simp
    obtain ⟨EF, e1, e2, e3⟩ := opf_any p.kd (hk h0).1 (hk h0).2 (a.val (vlv M)) ⟨0, noB, false⟩
    exact valueOf_op p (a.val (vlv M)) ⟨0, noB, false⟩ _ EF W h0 e1 e2 e3
  | [a, b], hs =>
    have h0 : sds p.kd ≠ 0 := by rw [← hs]; simp
    obtain ⟨EF, e1, e2, e3⟩ := opf_any p.kd (hk h0).1 (hk h0).2 (a.val (vlv M)) (b.val (vlv M))
    exact valueOf_op p (a.val (vlv M)) (b.val (vlv M)) _ EF W h0 e1 e2 e3
  | a :: b :: c :: r, hs => simp at hs; omega
theorem fold_values {gm : Nat} {M : Mo} {an al : Option Addr} {cn cl : Nat} (ad : Option Addr) (cap : Nat) (xs : List Pt) (hsz : xs.length ≤ 200) (w : World) (hc : PtsAt w ad xs) (hM : MoAt gm M an al cn cl w) (hlv : ∀ q ∈ xs, sds q.kd = 0 → lfK q ≠ 0) (hst : hasS M.ns xs = true) :
    Calls Tryz.prog 29 #[.slice ad xs.length cap, .func (.func 30) #[.pointer (some ⟨gm, 0, none⟩)] #[]] w fun e w' => e = .returned (foRV (fdX (vlv M) xs)) ∧ Below w.heap.size w w' :=
  callsIn_wide.1 (foldV_in 30 ad cap xs hsz w (PtsLow.of hc) (enters_of Tryz.func30 (by kernel_rfl) rfl) (fun p ts W hp _ _ hs hb => valueOf_each hM hlv hst p ts W hp hs hb))
end Go.Proofs.YthipclehhcfahabGreatDoor
namespace Go.Proofs.YthipclehhcfahabGreatDoor
open Go.RowKit Go.Shelf

def okS (ns : List ByteArray) (p : Pt) : Bool := emptyB p.st || hasN ns p.st
theorem hasS_def (ns : List ByteArray) (x : List Pt) : hasS ns x = x.all (okS ns) := rfl
theorem all_take_next {xs : List Pt} {f : Pt → Bool} {k : Nat} (h : (xs.take k).all f = true) (hk : k < xs.length) (hf : f xs[k] = true) : (xs.take (k + 1)).all f = true := by
  rw [List.take_succ_eq_append_getElem hk, List.all_append, h]
  simp [hf]
theorem all_no {xs : List Pt} {f : Pt → Bool} {k : Nat} (hk : k < xs.length) (hf : f xs[k] = false) : xs.all f = false := by
  rw [List.all_eq_false]
  exact ⟨xs[k], List.getElem_mem _, by rw [hf]; simp⟩
theorem part_cells {w W : World} {a b c d e : Value} {t : TypeId} (hk : Kp [] (w.alloc (.cells #[a, b, c, d, e] t)) W) : W.cell? ⟨w.heap.size, 3, none⟩ = some d := ((CBox.new w #[a, b, c, d, e] t).kp hk (by simp)).cell rfl
set_option maxHeartbeats 2000000 in
set_option maxRecDepth 100000 in
theorem hasStages_any {gm : Nat} {M : Mo} {an : Option Addr} {cn : Nat} {nl lv : Value} (ad : Option Addr) (cap : Nat) (xs : List Pt) (hsz : xs.length ≤ 200) (W : World) (hc : PtsAt W ad xs) (hbx : CBox gm (moC M nl lv) 72 W) (hnl : nl = .slice an M.ns.length cn) (hln : M.ns.length ≤ 9223372036854775807) (hnm : NmsAt W an M.ns) :
    Calls Tryz.prog 28 #[.pointer (some ⟨gm, 0, none⟩), .slice ad xs.length cap] W fun e w' => e = .returned (.bool (hasS M.ns xs)) ∧ Below W.heap.size W w' := by
  subst hnl
  rw [hasS_def]
  have HNO : Hid (∀ k (hk : k < xs.length), okS M.ns xs[k] = false → xs.all (okS M.ns) = false) := hide (fun k hk hf => all_no hk hf)
  have HNX : Hid (∀ k (hk : k < xs.length), (xs.take k).all (okS M.ns) = true → okS M.ns xs[k] = true → (xs.take (k + 1)).all (okS M.ns) = true) := hide (fun k hk h hf => all_take_next h hk hf)
  have HYS : Hid ((xs.take xs.length).all (okS M.ns) = true → xs.all (okS M.ns) = true) := hide (fun h => by rwa [List.take_length] at h)
  have HF : Hid (∀ w1, Below W.heap.size W w1 → w1.cell? ⟨gm, 7, none⟩ = some (.slice an M.ns.length cn) ∧ gm < w1.heap.size ∧ Hid (NmsAt w1 an M.ns) ∧ Hid (PtsAt w1 ad xs)) := hide (fun w1 hb => ⟨(Kp.ofBelow hb).cell (hbx.cell rfl) (by simp), by have := (Array.getElem?_eq_some_iff.1 hbx).1; have := hb.size; omega, hide (hnm.kp (Kp.ofBelow hb) (by simp)), hide (hc.kp (Kp.ofBelow hb))⟩)
  clear hc hbx hnm
  obtain ⟨R, hR⟩ : ∃ R, xs.all (okS M.ns) = R := ⟨_, rfl⟩
  rw [hR] at HNO HYS ⊢
  clear hR
  obtain ⟨n, hn⟩ : ∃ n, xs.length = n := ⟨_, rfl⟩
  have HN := hide hn
  rw [hn] at HYS hsz ⊢
  clear hn
  go_enter Tryz.func28, Tryz.ntmps28
  go_wp2
  go_loopw [9] (fun i wr => ∃ k : Nat, k ≤ n ∧ i = .int .i64 (k : Int) ∧ Below W.heap.size W wr ∧ Hid ((xs.take k).all (okS M.ns) = true)) (fun i _ => n - (intOf i).toNat)
  case atStart => exact ⟨0, Nat.zero_le _, rfl, Below.refl _ _, hide (by simp)⟩
  case round =>
    obtain ⟨k, hk, rfl, hb, HK⟩ := hrel
    by_cases hlt : k < n
    · have hkx : k < xs.length := by rw [unhide HN]; exact hlt
      obtain ⟨_, _, _, HP⟩ := unhide HF wr hb
      obtain ⟨b, off, rfl, hbl, x0, x1, x2, x3, x4⟩ := (unhide HP).at k hkx
      have HNO2 : Hid (okS M.ns xs[k] = false → R = false) := hide (unhide HNO k hkx)
      have HNX2 : Hid (okS M.ns xs[k] = true → (xs.take (k + 1)).all (okS M.ns) = true) := hide (unhide HNX k hkx (unhide HK))
      have hok : okS M.ns xs[k] = (emptyB xs[k].st || hasN M.ns xs[k].st) := rfl
      rw [hok] at HNO2 HNX2
      have hli : (k : Int) < (n : Int) := by omega
      clear hok HP HNO HNX HYS HK
      generalize xs[k] = p at *
      obtain ⟨pk, pn, ps, pt, pf⟩ := p
      dsimp only at x0 x1 x2 x3 x4 HNO2 HNX2
      have hb2 : Below W.heap.size W (wr.alloc (.cells #[.int .i64 pk, .int .i64 pn, .string ps, .string pt, .int .i64 pf] 69)) := hb.alloc hb.size _
      have hbd : Below W.heap.size W (wr.alloc (.cells #[.int .i64 pk, .int .i64 pn, .string ps, .string pt, .int .i64 pf] 69)).drew := hb2.drew
      have c3 : (wr.alloc (.cells #[.int .i64 pk, .int .i64 pn, .string ps, .string pt, .int .i64 pf] 69)).drew.cell? ⟨wr.heap.size, 3, none⟩ = some (.string pt) := (CBox.new wr _ _).cell rfl
      obtain ⟨c7, hgl, HNM, _⟩ := unhide HF _ hbd
      have CT := hide (contains_any an cn M.ns pt _ hln (unhide HNM))
      have HBD := hide hbd
      have hgw := (unhide HF wr hb).2.1
      clear hb hb2 hbd HNM HF
      go_wp2_with fail
      generalize wr.alloc (.cells #[.int .i64 pk, .int .i64 pn, .string ps, .string pt, .int .i64 pf] 69) = W2 at *
      clear x0 x1 x2 x3 x4
      by_cases he : emptyB pt = true
      · have g1 : pt.toList.isEmpty = true := by rw [emp_toList]; exact he
        have g2 : (pt.toList == ([] : List UInt8)) = true := by rw [emp_str]; exact he
        rw [he, Bool.true_or] at HNX2
        have HX := hide (unhide HNX2 rfl)
        have c3' : W2.cell? ⟨wr.heap.size, 3, none⟩ = some (.string pt) := c3
        clear HNX2 HNO2 he CT c3
        go_quiet (fail)
        go_wp2
        go_roundw
        case rel => exact ⟨k + 1, by omega, by go_num, (unhide HBD).trans ⟨rfl, rfl, rfl, Nat.le_refl _, fun _ _ => rfl⟩, HX⟩
        case measure => simp [intOf]; omega
      · have he' : emptyB pt = false := by simpa using he
        have g1 : pt.toList.isEmpty = false := by rw [emp_toList]; exact he'
        have g2 : (pt.toList == ([] : List UInt8)) = false := by rw [emp_str]; exact he'
        rw [he', Bool.false_or] at HNX2 HNO2
        generalize hasN M.ns pt = B at *
        generalize M.ns.length = NL at *
        have cS := And.intro c3 c7
        clear he he' c3 c7
        generalize wr.heap.size = G at *
        go_region_held3 (fun w' => w'.cell? ⟨G, 3, none⟩ = some (.string pt) ∧ w'.cell? ⟨gm, 7, none⟩ = some (.slice an NL cn))
          (first | with_reducible exact cS)
          (first | (go_at_call 56; refine (unhide CT).mono ?_; rintro e w2 ⟨rfl, rfl⟩))
        clear cS CT
        cases B with
        | true =>
          have HX := hide (unhide HNX2 rfl)
          clear HNX2 HNO2
          go_wp2
          go_roundw
          case rel => exact ⟨k + 1, by omega, by go_num, (unhide HBD), HX⟩
          case measure => simp [intOf]; omega
        | false =>
          obtain rfl := unhide HNO2 rfl
          clear HNX2 HNO2
          go_wp2
          go_ret
          exact ⟨rfl, unhide HBD⟩
    · obtain rfl : k = n := by omega
      obtain rfl := unhide HYS (unhide HK)
      clear HYS HNO
      go_wp2
      go_ret
      exact ⟨rfl, hb⟩
end Go.Proofs.YthipclehhcfahabGreatDoor
namespace Go.Proofs.YthipclehhcfahabGreatDoor
open Go.RowKit Go.Shelf

set_option maxHeartbeats 2000000 in
set_option maxRecDepth 100000 in
theorem stages_any (ad : Option Addr) (cap : Nat) (xs : List Pt) (w : World) (hc : PtsAt w ad xs) (hT : TbE w) (hfit : ∀ p ∈ xs, p.fit) :
    Calls Tryz.prog 127 #[.slice ad xs.length cap] w fun e w' => ∃ v, e = .returned (.tuple #[v, .int .i64 (if ckK xs = 0 then 110 else 0)]) ∧ OwnsW w.heap.size w' v (stgS xs) ∧ Below w.heap.size w w' := by
  have CK := hide (check_any ad cap xs w hc hT hfit)
  by_cases h0 : ckK xs = 0
  · have hs : stgS xs = [] := by unfold stgS; rw [if_pos h0]
    rw [hs]
    rw [h0, if_pos rfl] at CK
    rw [if_pos h0]
    clear hc hT hfit h0 hs
    go_enter Tryz.func127, Tryz.ntmps127
    go_wp2_with fail
    refine (unhide CK).mono ?_
    rintro e w1 ⟨rfl, hb⟩
    clear CK
    go_wp2
    exact bodyPost_ret (results_tmp2 rfl _ _ _) rfl ⟨_, rfl, OwnsW.nil _ _, hb⟩
  · have hs : stgS xs = stgL xs := by unfold stgS; rw [if_neg h0]
    rw [hs]
    rw [if_neg h0] at CK
    rw [if_neg h0]
    have HST := hide (ck_st h0)
    obtain ⟨_, _, _, _, _, hx, _⟩ := ckK_leaves h0
    have HC := hide hc
    have HTK := hide (fun k (hk : k < xs.length) => stgL_take xs k hk)
    have HLN := hide (fun k => Nat.le_trans (stgL_len (xs.take k)) (by rw [List.length_take]; omega : (xs.take k).length ≤ 200))
    have HEN : Hid (stgL (xs.take xs.length) = stgL xs) := hide (by rw [List.take_length])
    clear hc hT hfit h0 hs
    generalize ckK xs = ck at *
    obtain ⟨n, hn⟩ : ∃ n, xs.length = n := ⟨_, rfl⟩
    have HN := hide hn
    rw [hn] at hx CK HEN ⊢
    clear hn
    go_enter Tryz.func127, Tryz.ntmps127
    go_wp2_with fail
    refine (unhide CK).mono ?_
    rintro e w1 ⟨rfl, hb1⟩
    have HB1 := hide hb1
    clear CK hb1
    go_wp2_with fail
    go_loopw [6, 19] (fun v i wr => ∃ (k : Nat) (a : Option Addr) (c NL : Nat), k ≤ n ∧ i = .int .i64 (k : Int) ∧ v = .slice a NL c ∧ NL = (stgL (xs.take k)).length ∧ Hid (OwnsW w.heap.size wr (.slice a NL c) (stgL (xs.take k))) ∧ Below w.heap.size w wr) (fun _ i _ => n - (intOf i).toNat)
    case atStart => exact ⟨0, none, 0, 0, Nat.zero_le _, rfl, rfl, rfl, hide (OwnsW.nil _ _), unhide HB1⟩
    case round =>
      obtain ⟨k, a, c, NL, hk, rfl, rfl, hNL, HO, hb⟩ := hrel
      by_cases hlt : k < n
      · have hkx : k < xs.length := by rw [unhide HN]; exact hlt
        have hli : (k : Int) < (n : Int) := by omega
        obtain ⟨b, off, rfl, hbl, x0, x1, x2, x3, x4⟩ := ((unhide HC).kp (Kp.ofBelow hb)).at k hkx
        have HSG := hide (unhide HST _ (List.getElem_mem hkx))
        have HNX := hide (unhide HTK k hkx)
        have hl2 := unhide HLN k
        unfold stgA at HNX
        clear HTK HLN HST HEN HC HB1
        generalize xs[k] = p at *
        obtain ⟨pk, pn, ps, pt, pf⟩ := p
        dsimp only at x0 x1 x2 x3 x4 HSG HNX
        have hb2 : Below w.heap.size w (wr.alloc (.cells #[.int .i64 pk, .int .i64 pn, .string ps, .string pt, .int .i64 pf] 69)) := hb.alloc hb.size _
        have ho2 := (unhide HO).kp (Kp.alloc wr (.cells #[.int .i64 pk, .int .i64 pn, .string ps, .string pt, .int .i64 pf] 69))
        have c3 : (wr.alloc (.cells #[.int .i64 pk, .int .i64 pn, .string ps, .string pt, .int .i64 pf] 69)).cell? ⟨wr.heap.size, 3, none⟩ = some (.string pt) := (CBox.new wr _ _).cell rfl
        generalize stgL (xs.take k) = L at *
        obtain ⟨a', c', hv, hnm, _⟩ := ho2.at
        injection hv with e1 e2 e3
        subst e1 e3
        have CT := hide (contains_any a c L pt _ (by omega) hnm)
        rw [← hNL] at CT
        have HB2 := hide hb2
        have HO2 := hide ho2
        have HNL := hide hNL
        have hwl : wr.heap.size < (wr.alloc (.cells #[.int .i64 pk, .int .i64 pn, .string ps, .string pt, .int .i64 pf] 69)).heap.size := by simp
        clear hb hb2 ho2 HO hnm hNL e2
        have g1 := emp_toList pt
        have g2 := emp_str pt
        cases hE : emptyB pt with
        | true =>
          rw [hE] at g1 g2
          rw [hE, Bool.true_or, if_pos rfl] at HNX
          clear hE CT
          go_wp2_with fail
          go_roundw
          case rel => exact ⟨k + 1, a, c, NL, by omega, by go_num, rfl, by rw [unhide HNX]; exact unhide HNL, by rw [unhide HNX]; exact HO2, unhide HB2⟩
          case measure => simp [intOf]; omega
        | false =>
          rw [hE] at g1 g2
          rw [hE, Bool.false_or] at HNX
          clear hE
          cases hH : hasN L pt with
          | true =>
            rw [hH] at CT HNX
            rw [if_pos rfl] at HNX
            clear hH
            go_wp2_with fail
            refine (unhide CT).mono ?_
            rintro e w4 ⟨rfl, rfl⟩
            clear CT
            go_wp2
            go_roundw
            case rel => exact ⟨k + 1, a, c, NL, by omega, by go_num, rfl, by rw [unhide HNX]; exact unhide HNL, by rw [unhide HNX]; exact HO2, unhide HB2⟩
            case measure => simp [intOf]; omega
          | false =>
            rw [hH] at CT HNX
            rw [if_neg (by simp)] at HNX
            clear hH
            have hpz : pt.size ≤ 32 := (unhide HSG).2
            have CL := hide (fun W => clone_any pt W (by omega))
            go_wp2_with fail
            refine (unhide CT).mono ?_
            rintro e w4 ⟨rfl, rfl⟩
            clear CT
            generalize wr.alloc (.cells #[.int .i64 pk, .int .i64 pn, .string ps, .string pt, .int .i64 pf] 69) = W2 at *
            go_wp2_with fail
            refine (unhide CL _).mono ?_
            rintro e w5 ⟨rfl, hb5⟩
            have k5 := (Kp.ofBelow hb5).trans (Kp.alloc w5 (.cells #[.string pt] 9)) (by simp)
            have hb6 := (unhide HB2).trans (k5.below (unhide HB2).size (by simp))
            have ho6 := (unhide HO2).kp k5
            obtain ⟨g', cap', w', hrun, hO', hbw, _⟩ := OwnsW.app (c := 1) ho6 hb6.size pt (g := w5.heap.size) ((CBox.new w5 _ _).cell rfl) (by omega) 54
            rw [← unhide HNL] at hrun hO'
            have HRUN := hide hrun
            have HO' := hide hO'
            have HBW := hide (hb6.trans hbw)
            clear hrun hO' hbw hb6 ho6 k5 hb5 CL
            dsimp only
            go_wp2_with (at_builtin; refine wpList_app_run rfl _ _ _ rfl rfl rfl (unhide HRUN) ?_)
            go_roundw
            case rel => exact ⟨k + 1, _, cap', NL + 1, by omega, by go_num, rfl, by rw [unhide HNX, List.length_append, ← unhide HNL]; rfl, by rw [unhide HNX]; exact HO', unhide HBW⟩
            case measure => simp [intOf]; omega
      · obtain rfl : k = n := by omega
        have HE := unhide HEN
        rw [HE] at HO
        clear HE HEN HTK HLN HST HC HB1 hNL
        go_wp2
        exact bodyPost_ret (results_tmp2 rfl _ _ _) rfl ⟨_, rfl, unhide HO, hb⟩
end Go.Proofs.YthipclehhcfahabGreatDoor
