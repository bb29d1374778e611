/-
  The document's reckon: a leaf's value.
  The document's answer: how an expression is written.
-/
import Derived.Test.YthipclehhcfahaaGreatDoorHC31
import Derived.Test.YthipclehhcfahaaGreatDoorHC30
import Derived.Test.YthipclehhcfahaaGreatDoorHC14
import Derived.Deep.RegionWith
namespace Go.Proofs.YthipclehhcfahaaGreatDoor
open Go.RowKit Go.Shelf

/-- The event that is found among the names from a place on; else the event at hand. -/
def bkE (M : Mo) (st : ByteArray) (k : Nat) : Ev := if fstN st (M.ns.drop k) < (M.ns.drop k).length then M.la.getD (k + fstN st (M.ns.drop k)) evZ else M.e
theorem bkE_end (M : Mo) (st : ByteArray) : bkE M st M.ns.length = M.e := by
  unfold bkE
  rw [List.drop_length, if_neg (by simp)]
theorem bkE_hit {M : Mo} {st : ByteArray} {k : Nat} (h : k < M.ns.length) (he : M.ns[k].data.toList = st.data.toList) : bkE M st k = M.la.getD k evZ := by
  unfold bkE
  rw [List.drop_eq_getElem_cons h, fstN, if_pos he, if_pos (by rw [List.length_cons]; omega), Nat.add_zero]
theorem bkE_not {M : Mo} {st : ByteArray} {k : Nat} (h : k < M.ns.length) (he : M.ns[k].data.toList ≠ st.data.toList) : bkE M st k = bkE M st (k + 1) := by
  unfold bkE
  rw [List.drop_eq_getElem_cons h, fstN, if_neg he, List.length_cons]
  by_cases hl : fstN st (M.ns.drop (k + 1)) < (M.ns.drop (k + 1)).length
  · rw [if_pos (by omega), if_pos hl]
    congr 1
    omega
  · rw [if_neg (by omega), if_neg hl]
theorem bkE_zero {M : Mo} {st : ByteArray} (he : emptyB st = false) (h : hasN M.ns st = true) : bkE M st 0 = M.at st := by
  unfold hasN at h
  unfold bkE Mo.at
  rw [List.drop_zero, if_pos (of_decide_eq_true h), Nat.zero_add, he]
  rfl
theorem ev_put {g : Nat} {a : Ev} {t : TypeId} {w : World} (h : CBox g a.c t w) : (w.cell? ⟨g, 0, none⟩ = some (.string a.k) ∧ w.cell? ⟨g, 1, none⟩ = some (.string a.t) ∧ w.cell? ⟨g, 2, none⟩ = some (.int .i64 a.n0) ∧ w.cell? ⟨g, 3, none⟩ = some (.int .i64 a.n1) ∧ w.cell? ⟨g, 4, none⟩ = some (.int .i64 a.n2) ∧ w.cell? ⟨g, 5, none⟩ = some (.int .i64 a.n3) ∧ w.cell? ⟨g, 6, none⟩ = some (.string a.x)) ∧ (∀ i, w.frozen? ⟨g, i, none⟩ = false) := ⟨⟨h.cell rfl, h.cell rfl, h.cell rfl, h.cell rfl, h.cell rfl, h.cell rfl, h.cell rfl⟩, h.froz⟩
theorem seven_set {g : Nat} {a0 a1 a2 a3 a4 a5 a6 : Value} {t : TypeId} {w : World} (h0 : CBox g #[a0, a1, a2, a3, a4, a5, a6] t w) (b0 b1 b2 b3 b4 b5 b6 : Value) : CBox g #[b0, b1, b2, b3, b4, b5, b6] t (((((((w.setCell ⟨g, 0, none⟩ b0).setCell ⟨g, 1, none⟩ b1).setCell ⟨g, 2, none⟩ b2).setCell ⟨g, 3, none⟩ b3).setCell ⟨g, 4, none⟩ b4).setCell ⟨g, 5, none⟩ b5).setCell ⟨g, 6, none⟩ b6) := by
  have h1 : CBox g #[b0, a1, a2, a3, a4, a5, a6] t (w.setCell ⟨g, 0, none⟩ b0) := h0.set 0 b0
  have h2 : CBox g #[b0, b1, a2, a3, a4, a5, a6] t ((w.setCell ⟨g, 0, none⟩ b0).setCell ⟨g, 1, none⟩ b1) := h1.set 1 b1
  have h3 : CBox g #[b0, b1, b2, a3, a4, a5, a6] t (((w.setCell ⟨g, 0, none⟩ b0).setCell ⟨g, 1, none⟩ b1).setCell ⟨g, 2, none⟩ b2) := h2.set 2 b2
  have h4 : CBox g #[b0, b1, b2, b3, a4, a5, a6] t ((((w.setCell ⟨g, 0, none⟩ b0).setCell ⟨g, 1, none⟩ b1).setCell ⟨g, 2, none⟩ b2).setCell ⟨g, 3, none⟩ b3) := h3.set 3 b3
  have h5 : CBox g #[b0, b1, b2, b3, b4, a5, a6] t (((((w.setCell ⟨g, 0, none⟩ b0).setCell ⟨g, 1, none⟩ b1).setCell ⟨g, 2, none⟩ b2).setCell ⟨g, 3, none⟩ b3).setCell ⟨g, 4, none⟩ b4) := h4.set 4 b4
  have h6 : CBox g #[b0, b1, b2, b3, b4, b5, a6] t ((((((w.setCell ⟨g, 0, none⟩ b0).setCell ⟨g, 1, none⟩ b1).setCell ⟨g, 2, none⟩ b2).setCell ⟨g, 3, none⟩ b3).setCell ⟨g, 4, none⟩ b4).setCell ⟨g, 5, none⟩ b5) := h5.set 5 b5
  have h7 : CBox g #[b0, b1, b2, b3, b4, b5, b6] t (((((((w.setCell ⟨g, 0, none⟩ b0).setCell ⟨g, 1, none⟩ b1).setCell ⟨g, 2, none⟩ b2).setCell ⟨g, 3, none⟩ b3).setCell ⟨g, 4, none⟩ b4).setCell ⟨g, 5, none⟩ b5).setCell ⟨g, 6, none⟩ b6) := h6.set 6 b6
  exact h7
/-- An event written over another one. -/
theorem ev_set {g : Nat} {a : Ev} {t : TypeId} {w : World} (h : CBox g a.c t w) (b : Ev) : CBox g b.c t (((((((w.setCell ⟨g, 0, none⟩ (.string b.k)).setCell ⟨g, 1, none⟩ (.string b.t)).setCell ⟨g, 2, none⟩ (.int .i64 b.n0)).setCell ⟨g, 3, none⟩ (.int .i64 b.n1)).setCell ⟨g, 4, none⟩ (.int .i64 b.n2)).setCell ⟨g, 5, none⟩ (.int .i64 b.n3)).setCell ⟨g, 6, none⟩ (.string b.x)) := seven_set h (.string b.k) (.string b.t) (.int .i64 b.n0) (.int .i64 b.n1) (.int .i64 b.n2) (.int .i64 b.n3) (.string b.x)
theorem ev_kp {g : Nat} {w : World} (b : Ev) : Kp [g] w (((((((w.setCell ⟨g, 0, none⟩ (.string b.k)).setCell ⟨g, 1, none⟩ (.string b.t)).setCell ⟨g, 2, none⟩ (.int .i64 b.n0)).setCell ⟨g, 3, none⟩ (.int .i64 b.n1)).setCell ⟨g, 4, none⟩ (.int .i64 b.n2)).setCell ⟨g, 5, none⟩ (.int .i64 b.n3)).setCell ⟨g, 6, none⟩ (.string b.x)) := by
  have k0 := Kp.set w g 0 (.string b.k)
  have k1 := k0.trans (Kp.set (w.setCell ⟨g, 0, none⟩ (.string b.k)) g 1 (.string b.t)) (by simp)
  generalize (w.setCell ⟨g, 0, none⟩ (.string b.k)).setCell ⟨g, 1, none⟩ (.string b.t) = w1 at *
  have k2 := k1.trans (Kp.set w1 g 2 (.int .i64 b.n0)) (by simp)
  generalize w1.setCell ⟨g, 2, none⟩ (.int .i64 b.n0) = w2 at *
  have k3 := k2.trans (Kp.set w2 g 3 (.int .i64 b.n1)) (by simp)
  generalize w2.setCell ⟨g, 3, none⟩ (.int .i64 b.n1) = w3 at *
  have k4 := k3.trans (Kp.set w3 g 4 (.int .i64 b.n2)) (by simp)
  generalize w3.setCell ⟨g, 4, none⟩ (.int .i64 b.n2) = w4 at *
  have k5 := k4.trans (Kp.set w4 g 5 (.int .i64 b.n3)) (by simp)
  generalize w4.setCell ⟨g, 5, none⟩ (.int .i64 b.n3) = w5 at *
  exact k5.trans (Kp.set w5 g 6 (.string b.x)) (by simp)
theorem mid_at (w : World) (A B X : Obj) : (((w.alloc A).alloc X).alloc B).heap[w.heap.size + 1]? = some X := by
  rw [Below.heap_alloc _ _ _ (by simp)]
  exact two_at w A X
theorem mid_all (w : World) (A B X : Obj) : Below w.heap.size w (((w.alloc A).alloc X).alloc B) := (((Below.refl _ _).alloc (Nat.le_refl _) _).alloc (by simp) _).alloc (by simp; omega) _
/-- What is there to reckon of. -/
structure RkE (M : Mo) (ad an al : Option Addr) (xs : List Pt) (w : World) : Prop where
  pts : PtsAt w ad xs
  nms : NmsAt w an M.ns
  evs : EvsAt w al M.la
theorem RkE.kp {M : Mo} {ad an al : Option Addr} {xs : List Pt} {w w' : World} (h : RkE M ad an al xs w) (hk : Kp [] w w') : RkE M ad an al xs w' := ⟨h.pts.kp hk, h.nms.kp hk (by simp), h.evs.kp hk (by simp)⟩
theorem mid_get (pre : List Pt) (p : Pt) (r xs : List Pt) (h : xs = pre ++ p :: r) : ∃ hl : pre.length < xs.length, xs[pre.length] = p := by
  subst h
  exact ⟨by simp, by simp⟩
def RkT (w : World) (v : Vl) (E : Nat) (e : Ending) (w' : World) : Prop := e = .returned (.tuple #[v.v, .int .i64 (E : Int)]) ∧ Below w.heap.size w w'
set_option maxHeartbeats 4000000 in
set_option maxRecDepth 100000 in
theorem reckon_leaf {M : Mo} {ad an al : Option Addr} (cap cn cl : Nat) (xs pre : List Pt) (p : Pt) (rest : List Pt) (hxs : xs = pre ++ p :: rest) (hx : xs.length ≤ 200) (hln : M.ns.length ≤ 9223372036854775807) (hbo : M.ns.length = M.la.length) (hl : lfK p ≠ 0) (hst : emptyB p.st = true ∨ hasN M.ns p.st = true) (w : World) (h : RkE M ad an al xs w) :
    Calls Tryz.prog 55 #[.slice ad xs.length cap, .int .i64 (pre.length : Int), .agg M.e.c, .slice an M.ns.length cn, .slice al M.la.length cl] w (RkT w (lfV M p) (pre.length + 1)) := by
  obtain ⟨hat, hp⟩ := mid_get pre p rest xs hxs
  obtain ⟨hkd, _⟩ := lfK_kd hl
  have hfl : p.kd = 3 → 0 ≤ p.fl ∧ p.fl ≤ 5 := fun e => by
    rcases lfK_ne hl with ⟨e1, _⟩ | ⟨e1, _⟩ | ⟨_, a, b, _⟩
    · omega
    · omega
    · exact ⟨a, b⟩
  obtain ⟨b, off, rfl, hbl, x0, x1, x2, x3, x4⟩ := h.pts.at pre.length hat
  rw [hp] at x0 x1 x2 x3 x4
  have hev : M.e.c = #[.string M.e.k, .string M.e.t, .int .i64 M.e.n0, .int .i64 M.e.n1, .int .i64 M.e.n2, .int .i64 M.e.n3, .string M.e.x] := rfl
  have HE := hide h
  have HBO := hide hbo
  clear hbo
  have hli : (pre.length : Int) < (xs.length : Int) := by omega
  obtain ⟨LV, hLV⟩ : ∃ LV, lfV M p = LV := ⟨_, rfl⟩
  rw [hLV]
  have HLV : Hid ((if p.kd = 1 then ⟨p.n, noB, false⟩ else if p.kd = 2 then ⟨0, p.s, false⟩ else fdV (M.at p.st) p.fl) = LV) := hide hLV
  clear hxs hp hl h hLV
  rw [hev]
  generalize pre.length = at_ at *
  have ha1 : ((at_ + 1 : Nat) : Int) = (at_ : Int) + 1 := by omega
  have HA1 := hide ha1
  clear ha1 hev
  obtain ⟨pk, pn, ps, pt, pf⟩ := p
  dsimp only at *
  rcases hkd with rfl | rfl | rfl
  · obtain rfl : LV = ⟨pn, noB, false⟩ := (unhide HLV).symm.trans (if_pos rfl)
    clear HLV hfl
    go_enter Tryz.func55, Tryz.ntmps55
    go_wp2
    exact bodyPost_ret (results_row_tmp Tryz.results55 _ _ (w.heap.size + 1) 124 _ (0, 0) _ rfl (mid_at w _ _ _) Tryz.underlying124 rfl info_rvl) rfl ⟨by rw [unhide HA1]; rfl, mid_all w _ _ _⟩
  · obtain rfl : LV = ⟨0, ps, false⟩ := (unhide HLV).symm.trans ((if_neg (by decide)).trans (if_pos rfl))
    clear HLV hfl
    go_enter Tryz.func55, Tryz.ntmps55
    go_wp2
    exact bodyPost_ret (results_row_tmp Tryz.results55 _ _ (w.heap.size + 1) 124 _ (0, 0) _ rfl (mid_at w _ _ _) Tryz.underlying124 rfl info_rvl) rfl ⟨by rw [unhide HA1]; rfl, mid_all w _ _ _⟩
  · obtain rfl : LV = fdV (M.at pt) pf := (unhide HLV).symm.trans ((if_neg (by decide)).trans (if_neg (by decide)))
    have hf := hfl rfl
    clear HLV hfl
    have HW : Hid (∀ W, Kp [w.heap.size + 1 + 1 + 1] ((((w.alloc (.cells #[.string M.e.k, .string M.e.t, .int .i64 M.e.n0, .int .i64 M.e.n1, .int .i64 M.e.n2, .int .i64 M.e.n3, .string M.e.x] 37)).alloc (.cells #[.int .i64 0, .string { data := #[] }, .bool false] 124)).alloc (.cells #[.int .i64 3, .int .i64 pn, .string ps, .string pt, .int .i64 pf] 53)).alloc (.cells #[.string M.e.k, .string M.e.t, .int .i64 M.e.n0, .int .i64 M.e.n1, .int .i64 M.e.n2, .int .i64 M.e.n3, .string M.e.x] 37)) W → (W.cell? ⟨w.heap.size + 1 + 1, 3, none⟩ = some (.string pt) ∧ W.cell? ⟨w.heap.size + 1 + 1, 4, none⟩ = some (.int .i64 pf)) ∧ w.heap.size + 1 + 1 + 1 < W.heap.size ∧ Hid (RkE M (some ⟨b, off, none⟩) an al xs W) ∧ CBox (w.heap.size + 1) #[.int .i64 0, .string { data := #[] }, .bool false] 124 W ∧ Hid (Below w.heap.size w W)) := hide (fun W hk => by
      have p2 : CBox (w.heap.size + 1 + 1) #[.int .i64 3, .int .i64 pn, .string ps, .string pt, .int .i64 pf] 53 W := CBox.kp (CBox.kp (vl_at w _ _ _) (Kp.alloc _ _) (by simp)) hk (by simp)
      have p1 : CBox (w.heap.size + 1) #[.int .i64 0, .string { data := #[] }, .bool false] 124 W := CBox.kp (CBox.kp (mid_at w _ _ _) (Kp.alloc _ _) (by simp)) hk (by simp)
      have hs := hk.size
      refine ⟨⟨p2.cell rfl, p2.cell rfl⟩, by simp at hs; omega, hide ?_, p1, hide ?_⟩
      · have k0 : Kp [] w ((((w.alloc (.cells #[.string M.e.k, .string M.e.t, .int .i64 M.e.n0, .int .i64 M.e.n1, .int .i64 M.e.n2, .int .i64 M.e.n3, .string M.e.x] 37)).alloc (.cells #[.int .i64 0, .string { data := #[] }, .bool false] 124)).alloc (.cells #[.int .i64 3, .int .i64 pn, .string ps, .string pt, .int .i64 pf] 53)).alloc (.cells #[.string M.e.k, .string M.e.t, .int .i64 M.e.n0, .int .i64 M.e.n1, .int .i64 M.e.n2, .int .i64 M.e.n3, .string M.e.x] 37)) := vo_kp w _ _ _ _
        exact (unhide HE).kp (k0.trans hk (by simp; omega))
      · exact (vo_all w _ _ _ _).trans (hk.below (by simp; omega) (by simp; omega)))
    have HX : Hid (CBox (w.heap.size + 1 + 1 + 1) M.e.c 37 ((((w.alloc (.cells #[.string M.e.k, .string M.e.t, .int .i64 M.e.n0, .int .i64 M.e.n1, .int .i64 M.e.n2, .int .i64 M.e.n3, .string M.e.x] 37)).alloc (.cells #[.int .i64 0, .string { data := #[] }, .bool false] 124)).alloc (.cells #[.int .i64 3, .int .i64 pn, .string ps, .string pt, .int .i64 pf] 53)).alloc (.cells #[.string M.e.k, .string M.e.t, .int .i64 M.e.n0, .int .i64 M.e.n1, .int .i64 M.e.n2, .int .i64 M.e.n3, .string M.e.x] 37))) := hide (vo_at w _ _ _ _)
    have HGE := hide (fun (EVT : Ev) W => rGet_any EVT pf hf W)
    have HEZ : Hid (emptyB pt = true → M.at pt = M.e) := hide (fun h => by unfold Mo.at; rw [if_pos h])
    have HNZ : Hid (emptyB pt = false → bkE M pt 0 = M.at pt) := hide (fun h => by
      rcases hst with e | e
      · rw [e] at h; cases h
      · exact bkE_zero h e)
    have HFIN : Hid (∀ (r0 r1 : Int) (r2 : Value), True) := hide (fun _ _ _ => trivial)
    clear HE hst HFIN
    go_enter Tryz.func55, Tryz.ntmps55
    go_wp2_with fail
    generalize ((((w.alloc (.cells #[.string M.e.k, .string M.e.t, .int .i64 M.e.n0, .int .i64 M.e.n1, .int .i64 M.e.n2, .int .i64 M.e.n3, .string M.e.x] 37)).alloc (.cells #[.int .i64 0, .string { data := #[] }, .bool false] 124)).alloc (.cells #[.int .i64 3, .int .i64 pn, .string ps, .string pt, .int .i64 pf] 53)).alloc (.cells #[.string M.e.k, .string M.e.t, .int .i64 M.e.n0, .int .i64 M.e.n1, .int .i64 M.e.n2, .int .i64 M.e.n3, .string M.e.x] 37)) = W0 at *
    obtain ⟨n, hn⟩ : ∃ n, M.ns.length = n := ⟨_, rfl⟩
    have HN := hide hn
    rw [hn] at hln ⊢
    clear hn
    have HB0 : Hid (bkE M pt n = M.e) := hide (by rw [← unhide HN]; exact bkE_end M pt)
    go_loopw [14] (fun i wr => ∃ (k : Nat) (EK : Ev), k ≤ n ∧ i = .int .i64 ((k : Int) - 1) ∧ Kp [w.heap.size + 1 + 1 + 1] W0 wr ∧ CBox (w.heap.size + 1 + 1 + 1) EK.c 37 wr ∧ Hid ((emptyB pt = true → EK = M.e) ∧ (emptyB pt = false → EK = bkE M pt k))) (fun i _ => (intOf i + 1).toNat)
    case atStart => exact ⟨n, M.e, Nat.le_refl _, rfl, Kp.refl _ _, unhide HX, hide ⟨fun _ => rfl, fun _ => (unhide HB0).symm⟩⟩
    case round =>
      obtain ⟨k, EK, hk, rfl, hkp, hbx, HEK⟩ := hrel
      obtain ⟨⟨c3, c4⟩, hlt, HR, rb, HB⟩ := unhide HW wr hkp
      obtain ⟨⟨v0, v1, v2, v3, v4, v5, v6⟩, vz⟩ := ev_put hbx
      by_cases hend : k = 0 ∨ emptyB pt = true
      · have hEK : EK = M.at pt := by
          by_cases he : emptyB pt = true
          · exact ((unhide HEK).1 he).trans (unhide HEZ he).symm
          · have he' : emptyB pt = false := by simpa using he
            have h0 : k = 0 := by
              rcases hend with h | h
              · exact h
              · exact absurd h he
            have := (unhide HEK).2 he'
            rw [h0] at this
            exact this.trans (unhide HNZ he')
        have GE := hide (unhide HGE EK wr)
        have hcc : EK.c = #[.string EK.k, .string EK.t, .int .i64 EK.n0, .int .i64 EK.n1, .int .i64 EK.n2, .int .i64 EK.n3, .string EK.x] := rfl
        rw [hcc] at GE
        have HLV : Hid (fdV (M.at pt) pf = fdV EK pf) := hide (by rw [hEK])
        have HRB := hide rb
        have HP := hide (fun W (hb : Below wr.heap.size wr W) => And.intro (CBox.kp rb (Kp.ofBelow hb) (by simp)) ((unhide HB).trans (hb.mono (unhide HB).size)))
        generalize fdV EK pf = FV at *
        obtain ⟨fn, fs, ft⟩ := FV
        unfold Vl.v at GE
        dsimp only at GE
        clear hcc hEK HEK HR rb HB hkp hbx HGE HEZ HNZ HB0 HW HX HRB
        have hcond : ((0 : Int) ≤ (k : Int) - 1) = (¬ k = 0) := by rw [eq_iff_iff]; omega
        by_cases h0 : k = 0
        · subst h0
          clear hend hcond
          go_wp2_with fail
          refine (unhide GE).mono ?_
          rintro e w4 ⟨rfl, hb4⟩
          obtain ⟨rb4, hb5⟩ := unhide HP w4 hb4
          have r0 := rb4.cell (i := 0) (v := .int .i64 0) rfl
          have r1 := rb4.cell (i := 1) (v := .string { data := #[] }) rfl
          have r2 := rb4.cell (i := 2) (v := .bool false) rfl
          have rz := rb4.froz
          have HXX := hide (vl_put3 (by omega) rb4 hb5)
          clear GE HP hb4 rb4 hb5
          go_wp2
          exact bodyPost_ret (results_row_tmp Tryz.results55 _ _ (w.heap.size + 1) 124 _ (0, 0) _ rfl (unhide HXX _ _ _).1 Tryz.underlying124 rfl info_rvl) rfl ⟨by rw [unhide HA1, unhide HLV]; rfl, (unhide HXX _ _ _).2⟩
        · have g1 : pt.toList.isEmpty = true := by
            rw [emp_toList]
            rcases hend with h | h
            · exact absurd h h0
            · exact h
          obtain ⟨m, rfl⟩ : ∃ m, k = m + 1 := ⟨k - 1, by omega⟩
          have hm1 : (((m + 1 : Nat) : Int)) - 1 = (m : Int) := by omega
          rw [hm1]
          clear hend hcond h0 hm1
          go_wp2_with fail
          refine (unhide GE).mono ?_
          rintro e w4 ⟨rfl, hb4⟩
          obtain ⟨rb4, hb5⟩ := unhide HP w4 hb4
          have r0 := rb4.cell (i := 0) (v := .int .i64 0) rfl
          have r1 := rb4.cell (i := 1) (v := .string { data := #[] }) rfl
          have r2 := rb4.cell (i := 2) (v := .bool false) rfl
          have rz := rb4.froz
          have HXX := hide (vl_put3 (by omega) rb4 hb5)
          clear GE HP hb4 rb4 hb5
          go_wp2
          exact bodyPost_ret (results_row_tmp Tryz.results55 _ _ (w.heap.size + 1) 124 _ (0, 0) _ rfl (unhide HXX _ _ _).1 Tryz.underlying124 rfl info_rvl) rfl ⟨by rw [unhide HA1, unhide HLV]; rfl, (unhide HXX _ _ _).2⟩
      · obtain ⟨m, rfl⟩ : ∃ m, k = m + 1 := ⟨k - 1, by omega⟩
        have he' : emptyB pt = false := by
          cases hq : emptyB pt with
          | false => rfl
          | true => exact absurd (Or.inr hq) hend
        have g1 : pt.toList.isEmpty = false := by rw [emp_toList]; exact he'
        have hm1 : (((m + 1 : Nat) : Int)) - 1 = (m : Int) := by omega
        rw [hm1]
        have hmn : m < M.ns.length := by rw [unhide HN]; omega
        have hml : m < M.la.length := by rw [← unhide HBO]; exact hmn
        have hne : M.ns ≠ [] := by rintro e; rw [e] at hmn; simp at hmn
        obtain ⟨b2, o2, rfl, _, hc2⟩ := (unhide HR).nms hne
        have cn0 := hc2 m hmn
        obtain ⟨b3, o3, rfl, l0, l1, l2, l3, l4, l5, l6⟩ := (unhide HR).evs.seven m hml
        have hli2 : (m : Int) < (n : Int) := by omega
        have hli3 : (m : Int) < (M.la.length : Int) := by omega
        have HHIT := hide (fun (e : M.ns[m].data.toList = pt.data.toList) => bkE_hit hmn e)
        have HNOT := hide (fun (e : M.ns[m].data.toList ≠ pt.data.toList) => bkE_not hmn e)
        have HEK2 := hide ((unhide HEK).2 he')
        have HLA : Hid (M.la.getD m evZ = M.la[m]) := hide (by rw [List.getD_eq_getElem?_getD, List.getElem?_eq_getElem hml]; rfl)
        rw [unhide HLA] at HHIT
        have HKP := hide hkp
        have HBX := hide hbx
        clear hend hm1 HEK HR rb HB hkp hbx HGE HEZ HNZ HB0 HW HX hc2 hne HLA c4
        generalize M.ns[m] = nm at *
        generalize M.la[m] = EL at *
        by_cases heq : nm.data.toList = pt.data.toList
        · have g2 : (nm.toList == pt.toList) = true := by rw [toList_data, toList_data, heq]; exact beq_self_eq_true _
          have HEN : Hid (EL = bkE M pt m) := hide (unhide HHIT heq).symm
          clear heq HHIT HNOT
          go_wp2_with fail
          go_region
          have HS := hide (ev_set (w := wr) (unhide HBX) EL)
          have HKS := hide ((unhide HKP).trans (ev_kp (g := w.heap.size + 1 + 1 + 1) (w := wr) EL) (by simp))
          go_wp2
          go_roundw
          case rel => exact ⟨m, EL, by omega, by go_num, (unhide HKS).trans (Kp.drew _) (by simp), CBox.kp (unhide HS) (Kp.drew _) (by simp), hide ⟨fun h => (by rw [he'] at h; cases h), fun _ => unhide HEN⟩⟩
          case measure => simp [intOf]
        · have g2 : (nm.toList == pt.toList) = false := by rw [toList_data, toList_data]; exact beq_eq_false_iff_ne.2 heq
          have HEN : Hid (EK = bkE M pt m) := hide ((unhide HEK2).trans (unhide HNOT heq).symm)
          clear heq HHIT HNOT
          go_wp2_with fail
          go_region
          have HKS := hide ((unhide HKP).trans ((Kp.drew wr).mono (G := [w.heap.size + 1 + 1 + 1]) (by simp)) (by simp))
          go_wp2
          go_roundw
          case rel => exact ⟨m, EK, by omega, by go_num, unhide HKS, unhide HBX, hide ⟨fun h => (by rw [he'] at h; cases h), fun _ => unhide HEN⟩⟩
          case measure => simp [intOf]
end Go.Proofs.YthipclehhcfahaaGreatDoor
namespace Go.Proofs.YthipclehhcfahaaGreatDoor
open Go.RowKit Go.Shelf

def WnT (w : World) (S : List UInt8) (E : Nat) (e : Ending) (w' : World) : Prop := e = .returned (.tuple #[.string (txt S), .int .i64 (E : Int)]) ∧ Below w.heap.size w w'
/-- A tree's text, within another one or not. -/
def outB (o : Bool) (a : List UInt8 × Bool) : List UInt8 := if o then a.1 else sdB a
theorem part_keep {w W : World} {a b c d e : Value} {t : TypeId} (hk : Kp [] (w.alloc (.cells #[a, b, c, d, e] t)) W) : W.cell? ⟨w.heap.size, 0, none⟩ = some a ∧ W.cell? ⟨w.heap.size, 2, none⟩ = some c ∧ W.cell? ⟨w.heap.size, 3, none⟩ = some d ∧ W.cell? ⟨w.heap.size, 4, none⟩ = some e ∧ w.heap.size < W.heap.size := by
  have h := (CBox.new w #[a, b, c, d, e] t).kp hk (by simp)
  exact ⟨h.cell rfl, h.cell rfl, h.cell rfl, h.cell rfl, by have := hk.size; simp at this; omega⟩
set_option maxHeartbeats 4000000 in
set_option maxRecDepth 100000 in
theorem written_leaf {ad : Option Addr} (cap : Nat) (xs : List Pt) (at_ : Nat) (o : Bool) (hx : xs.length ≤ 200) (hat : at_ < xs.length) (hl : lfK xs[at_] ≠ 0) (hn : xs[at_].nk) (w : World) (h : PtsAt w ad xs) :
    Calls Tryz.prog 31 #[.slice ad xs.length cap, .int .i64 (at_ : Int), .bool o] w (WnT w (lfB xs[at_]) (at_ + 1)) := by
  obtain ⟨b, off, rfl, hbl, x0, x1, x2, x3, x4⟩ := h.at at_ hat
  have hli : (at_ : Int) < (xs.length : Int) := by omega
  clear h
  generalize xs[at_] = p at *
  have hlf := lfK_ne hl
  unfold WnT
  have ha1 : ((at_ + 1 : Nat) : Int) = (at_ : Int) + 1 := by omega
  rw [ha1]
  rcases hlf with ⟨hk, hn0, hp⟩ | ⟨hk, htx, hp⟩ | ⟨hk, hf0, hf5, hst, hp⟩
  · -- a number
    rw [hp] at x0 x1 x2 x3 x4 ⊢
    unfold Pt.nk at hn
    generalize p.n = n at *
    clear hl hp hk p
    dsimp only at x0 x1 x2 x3 x4
    have RW := rWritten_any ⟨2, txt [], n, 0⟩ (w.alloc (.cells #[.int .i64 1, .int .i64 n, .string (txt []), .string (txt []), .int .i64 0] 53)) (show (0 : Nat) ≤ 140737488351232 by omega) (by dsimp only; omega) (by dsimp only; omega)
    rw [wr_num n hn0 hn] at RW
    have hsp : lfB ⟨1, n, txt [], txt [], 0⟩ = spell ⟨2, txt [], n, 0⟩ := by rw [spell_n]; rfl
    rw [hsp]
    have HRW := hide RW
    unfold Tk.v at HRW
    dsimp only at HRW
    clear RW hsp
    generalize txt (spell ⟨2, txt [], n, 0⟩) = S at *
    go_enter Tryz.func31, Tryz.ntmps31
    go_wp2_with fail
    refine (unhide HRW).mono ?_
    rintro e w1 ⟨b1, rfl, hb1, hbel⟩
    obtain rfl := (by first | exact hb1 trivial | exact hb1 rfl)
    have HB := hide (((Below.refl w.heap.size w).alloc (Nat.le_refl _) (.cells #[.int .i64 1, .int .i64 n, .string (txt []), .string (txt []), .int .i64 0] 53)).trans (hbel.mono (by simp)))
    clear HRW hb1 hbel
    go_wp2
    exact bodyPost_ret (results_tmp2 rfl _ _ _) rfl ⟨rfl, unhide HB⟩
  · -- a text
    rw [hp] at x0 x1 x2 x3 x4 ⊢
    have hsz : p.s.size ≤ 256 := by unfold isTx at htx; simp at htx; exact htx.1
    have hsp : lfB ⟨2, 0, p.s, txt [], 0⟩ = 39 :: (p.s.data.toList ++ [39]) := rfl
    rw [hsp, ← quo_size]
    generalize p.s = s at *
    clear hl hp hk hsp hn htx p
    dsimp only at x0 x1 x2 x3 x4
    have D1 : ∀ W, (Op.stringOp .add { data := #[39] } s).run Tryz.prog W = .ok (.string (⟨#[39]⟩ ++ s)) W := fun W => run_string_add_sum W _ _ (by show 1 + s.size ≤ _; omega)
    have D2 : ∀ W, (Op.stringOp .add (⟨#[39]⟩ ++ s) { data := #[39] }).run Tryz.prog W = .ok (.string (⟨#[39]⟩ ++ s ++ ⟨#[39]⟩)) W := fun W => run_string_add_sum W _ _ (by rw [ByteArray.size_append]; show 1 + s.size + 1 ≤ _; omega)
    generalize (⟨#[39]⟩ ++ s ++ ⟨#[39]⟩ : ByteArray) = Z at *
    generalize (⟨#[39]⟩ ++ s : ByteArray) = Y at *
    have HB := hide ((Below.refl w.heap.size w).alloc (Nat.le_refl _) (.cells #[.int .i64 2, .int .i64 0, .string s, .string (txt []), .int .i64 0] 53))
    go_enter Tryz.func31, Tryz.ntmps31
    go_wp2
    exact bodyPost_ret (results_tmp2 rfl _ _ _) rfl ⟨rfl, unhide HB⟩
  · -- a field
    rw [hp] at x0 x1 x2 x3 x4 ⊢
    dsimp only at x0 x1 x2 x3 x4
    obtain ⟨F, hF⟩ := Int.eq_ofNat_of_zero_le hf0
    have hF6 : F < 6 := by omega
    have hlB : lfB ⟨3, 0, txt [], p.st, p.fl⟩ = if emptyB p.st then fldW.getD F [] else p.st.data.toList ++ ([32, 46, 32] ++ fldW.getD F []) := by unfold lfB fldN; rw [hF]; rfl
    rw [hlB]
    rw [hF] at x4
    clear hlB
    have hcell := fldV_at F hF6
    have hfl : (fldW.getD F []).length ≤ 4 := by
      have := (by decide +kernel : ∀ f : Fin 6, (fldW.getD f.val []).length ≤ 4) ⟨F, hF6⟩
      exact this
    have hss : p.st.size ≤ 32 ∨ p.st.size = 0 := by
      rcases hst with h | h
      · right; rw [h]; rfl
      · left; unfold isSg at h; simp only [Bool.and_eq_true, decide_eq_true_eq] at h; exact h.1.1.1.2
    generalize p.st = st at *
    generalize fldW.getD F [] = W6 at *
    clear hl hp hk hn hst hf0 hf5 hF p
    have RF := hide (rFields_any (w.alloc (.cells #[.int .i64 3, .int .i64 0, .string (txt []), .string st, .int .i64 (F : Int)] 53)).drew)
    have hFi : (F : Int) < 6 := by omega
    have k0 : Kp [] w (w.alloc (.cells #[.int .i64 3, .int .i64 0, .string (txt []), .string st, .int .i64 (F : Int)] 53)).drew := (Kp.alloc _ _).trans (Kp.drew _) (by simp)
    have HK0 := hide k0
    have c4 : (w.alloc (.cells #[.int .i64 3, .int .i64 0, .string (txt []), .string st, .int .i64 (F : Int)] 53)).drew.cell? ⟨w.heap.size, 4, none⟩ = some (.int .i64 (F : Int)) := (CBox.new w _ _).cell rfl
    have HPK := hide (fun W (hk : Kp [] (w.alloc (.cells #[.int .i64 3, .int .i64 0, .string (txt []), .string st, .int .i64 (F : Int)] 53)).drew W) => part_keep ((Kp.drew (w.alloc (.cells #[.int .i64 3, .int .i64 0, .string (txt []), .string st, .int .i64 (F : Int)] 53))).trans hk (by simp)))
    clear k0
    have hsz0 : (w.alloc (.cells #[.int .i64 3, .int .i64 0, .string (txt []), .string st, .int .i64 (F : Int)] 53)).drew.heap.size = w.heap.size + 1 := by simp [World.drew]
    rw [hsz0] at RF
    have hw0 : w.heap.size < (w.alloc (.cells #[.int .i64 3, .int .i64 0, .string (txt []), .string st, .int .i64 (F : Int)] 53)).heap.size := by simp
    clear hsz0
    have g1 := emp_toList st
    have g2 := emp_str st
    cases hE : emptyB st with
    | true =>
      rw [hE] at g1 g2
      clear hE hss
      rw [if_pos rfl]
      go_enter Tryz.func31, Tryz.ntmps31
      go_wp2_with fail
      generalize w.alloc (.cells #[.int .i64 3, .int .i64 0, .string (txt []), .string st, .int .i64 (F : Int)] 53) = W0 at *
      go_region_with (go_at_call 51; refine (unhide RF).mono ?_; rintro e w1 ⟨rfl, hbx, hkp⟩; obtain ⟨_, _, c3, d4, hlt⟩ := unhide HPK w1 hkp; have hc6 := hbx.cell hcell; have HB := hide (((unhide HK0).trans hkp (by simp)).below (Nat.le_refl _) (by simp)); clear hbx hkp)
      all_goals (go_wp2; exact bodyPost_ret (results_tmp2 rfl _ _ _) rfl ⟨rfl, unhide HB⟩)
    | false =>
      rw [hE] at g1 g2
      have hz : st.size ≤ 32 := by rcases hss with h | h <;> omega
      have D1 : ∀ W, (Op.stringOp .add st { data := #[32, 46, 32] }).run Tryz.prog W = .ok (.string (txt (st.data.toList ++ [32, 46, 32]))) W := fun W => by
        have := run_string_add_sum (P := Tryz.prog) W st ⟨#[32, 46, 32]⟩ (by show st.size + 3 ≤ _; omega)
        rw [this, ← txt_app, txt_self]
        rfl
      have D2 : ∀ W, (Op.stringOp .add (txt (st.data.toList ++ [32, 46, 32])) (txt W6)).run Tryz.prog W = .ok (.string (txt (st.data.toList ++ ([32, 46, 32] ++ W6)))) W := fun W => by
        have := str_add (st.data.toList ++ [32, 46, 32]) W6 (by rw [List.length_append, show st.data.toList.length = st.size from rfl]; simp; omega) W
        rw [List.append_assoc] at this
        exact this
      clear hE hss
      rw [if_neg (by simp)]
      generalize txt (st.data.toList ++ ([32, 46, 32] ++ W6)) = Z at *
      generalize txt (st.data.toList ++ [32, 46, 32]) = Y at *
      generalize txt W6 = V6 at *
      go_enter Tryz.func31, Tryz.ntmps31
      go_wp2_with fail
      generalize w.alloc (.cells #[.int .i64 3, .int .i64 0, .string (txt []), .string st, .int .i64 (F : Int)] 53) = W0 at *
      go_region_with (go_at_call 51; refine (unhide RF).mono ?_; rintro e w1 ⟨rfl, hbx, hkp⟩; obtain ⟨_, _, c3, d4, hlt⟩ := unhide HPK w1 hkp; have hc6 := hbx.cell hcell; have HB := hide (((unhide HK0).trans hkp (by simp)).below (Nat.le_refl _) (by simp)); clear hbx hkp)
      all_goals (go_wp2; exact bodyPost_ret (results_tmp2 rfl _ _ _) rfl ⟨rfl, unhide HB⟩)
end Go.Proofs.YthipclehhcfahaaGreatDoor
