/-
  The reader reads a leaf.
  The reader reads a chain of operations.
  The reader reads a chain of operations: the walk.
  The reader reads: whatever the level, as the plain reader does.
-/
import Derived.Test.YtogklmljllocbabGreatDoorF29
namespace Go.Proofs.YtogklmljllocbabGreatDoor
open Go.RowKit Go.Shelf
attribute [local irreducible] opsV

def shutO : PR → PR
  | .bad q => .bad q
  | .good x q => shut x q
theorem pRd_6a {f d : Nat} {t : Tk} {r : List Tk} (h : t.kd = 2) : pRd (f + 1) 6 d [] (t :: r) = .good [⟨1, t.n, txt [], txt [], 0⟩] r := by rw [pRd, if_pos rfl, if_pos h]
theorem pRd_6b {f d : Nat} {t : Tk} {r : List Tk} (h : t.kd = 3) : pRd (f + 1) 6 d [] (t :: r) = .good [⟨2, 0, t.s, txt [], 0⟩] r := by rw [pRd, if_pos rfl, if_neg (by omega), if_pos h]
theorem pRd_6c {f d : Nat} {t : Tk} {r : List Tk} (h : t.kd = 1) : pRd (f + 1) 6 d [] (t :: r) = fdR t r := by rw [pRd, if_pos rfl, if_neg (by omega), if_neg (by omega), if_pos h]
theorem pRd_6d {f d : Nat} {t : Tk} {r : List Tk} (h1 : t.kd ≠ 1) (h2 : t.kd ≠ 2) (h3 : t.kd ≠ 3) (h : wdT t = [40]) : pRd (f + 1) 6 d [] (t :: r) = shutO (inP f 0 d r) := by
  rw [pRd, if_pos rfl, if_neg h2, if_neg h3, if_neg h1, if_pos h]
  unfold inP
  split
  · cases pRd f 0 (d + 1) [] r <;> rfl
  · rfl
theorem pRd_6e {f d : Nat} {t : Tk} {r : List Tk} (h1 : t.kd ≠ 1) (h2 : t.kd ≠ 2) (h3 : t.kd ≠ 3) (h : wdT t ≠ [40]) : pRd (f + 1) 6 d [] (t :: r) = .bad (t :: r) := by rw [pRd, if_pos rfl, if_neg h2, if_neg h3, if_neg h1, if_neg h]
theorem inP_ok (f n d : Nat) (ts : List Tk) (hn : n ≤ 6) (h : Endd ts) : PRok 0 ts (inP f n d ts) := by
  unfold inP
  split
  · have := (pRd_ok f n (d + 1) [] ts h).1
    rwa [if_pos hn] at this
  · exact ⟨h, Nat.le_refl _⟩
/-- The token at hand, taken into a variable. -/
theorem tok_cells {gr : Nat} {lv tk : Value} {l : List Tk} {k d : Nat} {ps : List Pt} {W : World} (h : Rd gr lv tk l k d ps W) {t : Tk} {r : List Tk} (ht : l.drop k = t :: r) : ∃ b off cap, k < l.length ∧ l.length ≤ 100000 ∧ b < W.heap.size ∧ gr < W.heap.size ∧
    (∀ W', Kp [] W W' → W'.cell? ⟨gr, 71, none⟩ = some (.slice (some ⟨b, off, none⟩) l.length cap) ∧ W'.cell? ⟨gr, 72, none⟩ = some (.int .i64 (k : Int)) ∧ W'.cell? ⟨b, off + k * 4, none⟩ = some (.int .i64 t.kd) ∧ W'.cell? ⟨b, off + k * 4 + 1, none⟩ = some (.string t.s) ∧ W'.cell? ⟨b, off + k * 4 + 2, none⟩ = some (.int .i64 t.n) ∧ W'.cell? ⟨b, off + k * 4 + 3, none⟩ = some (.int .i64 t.pl)) := by
  obtain ⟨hk, ha, _⟩ := drop_at ht
  obtain ⟨pv, hb, _⟩ := h.box
  obtain ⟨b, off, cap, htk, hlt, hc⟩ := h.env.tks
  obtain ⟨c0, c1, c2, c3⟩ := hc k hk
  rw [ha] at c0 c1 c2 c3
  have hgl := (Array.getElem?_eq_some_iff.1 hb).1
  refine ⟨b, off, cap, hk, h.env.len, by omega, hgl, fun W' hk' => ?_⟩
  have e1 := hb.cell (rdC_71 lv tk k d pv)
  have e2 := hb.cell (rdC_72 lv tk k d pv)
  rw [htk] at e1
  exact ⟨hk'.cell e1 (by simp), hk'.cell e2 (by simp), hk'.cell c0 (by simp), hk'.cell c1 (by simp), hk'.cell c2 (by simp), hk'.cell c3 (by simp)⟩
set_option maxHeartbeats 4000000 in
set_option maxRecDepth 100000 in
theorem leaf_any {f : Nat} (IH : RdOK f) {gr : Nat} {lv tk : Value} {l : List Tk} {k d : Nat} {ps : List Pt} {W : World} (h : Rd gr lv tk l k d ps W) {t : Tk} {r : List Tk} (ht : l.drop k = t :: r) (hE : Endd (t :: r)) (hd : d ≤ 200) (hps : ps.length + (t :: r).length ≤ 500000) (hm : mRd 6 (t :: r) ≤ f + 1) :
    Calls Tryz.prog 197 #[.pointer (some ⟨gr, 0, none⟩), .int .i64 6] W (RdR gr lv tk l d ps W (pRd (f + 1) 6 d [] (t :: r))) := by
  obtain ⟨b, off, cap, hkl, hlen, hbW, hgl, hcs⟩ := tok_cells h ht
  obtain ⟨g1, g2, d0, d1, d2, d3⟩ := hcs _ (Kp.alloc W (.cells #[.int .i64 0, .string { data := #[] }, .int .i64 0, .int .i64 0] 82))
  obtain ⟨e1, e2, c0, c1, c2, c3⟩ := hcs W (Kp.refl _ _)
  have hd1 := (drop_at ht).2.2
  have hat := (drop_at ht).2.1
  have hsz : t.s.size ≤ 281474976710656 := by have := h.env.ok t (by rw [← hat]; exact List.getElem_mem hkl); omega
  have hbl : Below W.heap.size W (W.alloc (.cells #[.int .i64 t.kd, .string t.s, .int .i64 t.n, .int .i64 t.pl] 82)).drew := ((Below.refl _ _).alloc (Nat.le_refl _) _).trans ⟨rfl, rfl, rfl, Nat.le_refl _, fun _ _ => rfl⟩
  have HR0 := hide (h.below hbl)
  have HB0 := hide (hbl.mono (show gr ≤ W.heap.size by omega))
  have hlr : (t :: r).length = r.length + 1 := rfl
  have hps1 : ps.length ≤ 1000000 := by omega
  have hk1 : k ≤ 100000 := by omega
  obtain ⟨P, hP⟩ : ∃ P, pRd (f + 1) 6 d [] (t :: r) = P := ⟨_, rfl⟩
  rw [hP]
  have HP := hide hP
  have HIH := hide IH
  have HT := hide ht
  have HE := hide hE
  have HD1 := hide hd1
  clear hcs hP h hat hd1 ht hE IH hbl
  generalize hkd : t.kd = kd at *
  generalize hS : t.s = s at *
  generalize hN : t.n = n at *
  generalize t.pl = pl at *
  have HK := hide hkd
  have HSS := hide hS
  have HNN := hide hN
  clear hkd hS hN
  go_enter Tryz.func197, Tryz.ntmps197
  go_wp2
  go_region
  clear g1 g2 d0 d1 d2 d3 e1 e2 c0 c1 c2 c3
  by_cases h2 : kd = 2
  · subst h2
    have TA := hide (take_any (unhide HR0) ⟨1, n, txt [], txt [], 0⟩ hk1 hps1)
    unfold Pt.v at TA
    go_wp2_with fail
    refine (unhide TA).mono ?_
    rintro e w3 ⟨rfl, hr3, hb3⟩
    have HF : Hid (RdR gr lv tk l d ps W P (.returned (.bool true)) w3) := hide (by
      rw [← unhide HP, pRd_6a (unhide HK), unhide HNN]
      exact ⟨rfl, ⟨k + 1, unhide HD1, by omega, hr3⟩, (unhide HB0).trans hb3⟩)
    clear hr3 hb3 TA
    go_wp2
    refine bodyPost_ret (results_tmp rfl _ _ _) rfl ?_
    exact unhide HF
  have q2 : (kd == 2) = false := beq_eq_false_iff_ne.2 h2
  by_cases h3 : kd = 3
  · subst h3
    have CL := hide (clone_any s (W.alloc (.cells #[.int .i64 3, .string s, .int .i64 n, .int .i64 pl] 82)).drew hsz)
    go_wp2_with fail
    refine (unhide CL).mono ?_
    rintro e w2 ⟨rfl, hb2⟩
    have HR1 := hide ((unhide HR0).below hb2)
    have HB1 := hide ((unhide HB0).trans (hb2.mono (gr_le (unhide HR0))))
    have TA := hide (take_any (unhide HR1) ⟨2, 0, s, txt [], 0⟩ hk1 hps1)
    unfold Pt.v at TA
    clear hb2 CL HR0 HB0
    go_wp2_with fail
    refine (unhide TA).mono ?_
    rintro e w3 ⟨rfl, hr3, hb3⟩
    have HF : Hid (RdR gr lv tk l d ps W P (.returned (.bool true)) w3) := hide (by
      rw [← unhide HP, pRd_6b (unhide HK), unhide HSS]
      exact ⟨rfl, ⟨k + 1, unhide HD1, by omega, hr3⟩, (unhide HB1).trans hb3⟩)
    clear hr3 hb3 TA
    go_wp2
    refine bodyPost_ret (results_tmp rfl _ _ _) rfl ?_
    exact unhide HF
  have q3 : (kd == 3) = false := beq_eq_false_iff_ne.2 h3
  by_cases h1 : kd = 1
  · subst h1
    have FD := hide (field_any (unhide HR0) (unhide HT) (unhide HK) (unhide HE) hps1)
    rw [← pRd_6c (f := f) (d := d) (unhide HK), unhide HP] at FD
    go_wp2_with fail
    refine (unhide FD).mono ?_
    intro e w2 hR
    obtain ⟨rfl, k1, ps1, a1, a2, a3, a4, a5⟩ := hR.to
    have HF := hide (RdR.of a1 a2 a3 a4 ((unhide HB0).trans a5))
    clear hR FD a1 a2 a3 a4 a5 HP
    generalize P.ok = bb at *
    go_wp2
    refine bodyPost_ret (results_tmp rfl _ _ _) rfl ?_
    exact unhide HF
  have q1 : (kd == 1) = false := beq_eq_false_iff_ne.2 h1
  have SK : Hid (Calls Tryz.prog 223 #[.pointer (some ⟨gr, 0, none⟩), .string { data := #[40] }] (W.alloc (.cells #[.int .i64 kd, .string s, .int .i64 n, .int .i64 pl] 82)).drew fun e w' => e = .returned (.bool (decide (wdT t = [40]))) ∧ Rd gr lv tk l (if wdT t = [40] then k + 1 else k) d ps w' ∧ Below gr (W.alloc (.cells #[.int .i64 kd, .string s, .int .i64 n, .int .i64 pl] 82)).drew w') := hide (skip_any (unhide HR0) (unhide HT) ⟨#[40]⟩)
  by_cases hp : wdT t = [40]
  · rw [if_pos hp, decide_eq_true hp] at SK
    have hEr := (unhide HE).tail (wdT_kd (by rw [hp]; simp))
    have HP2 : Hid (P = shutO (inP f 0 d r)) := hide (by rw [← unhide HP]; exact pRd_6d (by rw [unhide HK]; exact h1) (by rw [unhide HK]; exact h2) (by rw [unhide HK]; exact h3) hp)
    have hok := inP_ok f 0 d r (by omega) hEr
    have HIN : Hid (∀ w1, Rd gr lv tk l (k + 1) d ps w1 → Calls Tryz.prog 220 #[.pointer (some ⟨gr, 0, none⟩), .int .i64 0] w1 (RdR gr lv tk l d ps w1 (inP f 0 d r))) := hide (fun w1 hr1 => by
      have := inner_any (unhide HIH) hr1 0 (by omega) (by rw [unhide HD1]; exact hEr) hd (by rw [unhide HD1]; omega) (by rw [unhide HD1, mRd_le (by omega)]; rw [mRd_le (by omega)] at hm; omega) (by omega)
      rw [unhide HD1] at this
      exact this)
    generalize inP f 0 d r = Q at *
    have HOK := hide hok
    clear hok hEr hp HP HE HT HIH HD1 hm HK
    go_wp2_with fail
    refine (unhide SK).mono ?_
    rintro e w1 ⟨rfl, hr1, hb1⟩
    have IN := hide (unhide HIN w1 hr1)
    have HB1 := hide ((unhide HB0).trans hb1)
    clear hr1 hb1 SK HIN HR0 HB0
    cases Q with
    | bad q =>
      go_wp2_with fail
      refine (unhide IN).mono ?_
      intro e w2 hR
      obtain rfl : e = .returned (.bool false) := hR.ret
      have HF : Hid (RdR gr lv tk l d ps W P (.returned (.bool false)) w2) := hide (by
        rw [unhide HP2]
        exact ⟨rfl, hR.2.1, (unhide HB1).trans hR.2.2⟩)
      clear hR IN HB1 HP2
      go_wp2
      refine bodyPost_ret (results_tmp rfl _ _ _) rfl ?_
      exact unhide HF
    | good x q =>
      obtain ⟨c, q', rfl⟩ : ∃ c q', q = c :: q' := by
        cases q with
        | nil => exact absurd rfl (unhide HOK).1.ne
        | cons c q' => exact ⟨c, q', rfl⟩
      go_wp2_with fail
      refine (unhide IN).mono ?_
      rintro e w2 ⟨rfl, ⟨k1, a1, a2, a3⟩, a4⟩
      have hk2 := (drop_at a1).2.2
      have hk3 := (drop_at a1).1
      have SK2 : Hid (Calls Tryz.prog 223 #[.pointer (some ⟨gr, 0, none⟩), .string { data := #[41] }] w2 fun e w' => e = .returned (.bool (decide (wdT c = [41]))) ∧ Rd gr lv tk l (if wdT c = [41] then k1 + 1 else k1) d (ps ++ x) w' ∧ Below gr w2 w') := hide (skip_any a3 a1 ⟨#[41]⟩)
      have HB2 := hide ((unhide HB1).trans a4)
      have HA1 := hide a1
      clear a1 a2 a3 a4 IN HB1
      go_wp2_with fail
      refine (unhide SK2).mono ?_
      rintro e w3 ⟨rfl, hr3, hb3⟩
      have HF : Hid (RdR gr lv tk l d ps W P (.returned (.bool (decide (wdT c = [41])))) w3) := hide (by
        rw [unhide HP2, shutO, shut]
        by_cases hc : wdT c = [41]
        · rw [if_pos hc] at hr3 ⊢
          exact ⟨by rw [decide_eq_true hc], ⟨k1 + 1, hk2, by omega, hr3⟩, (unhide HB2).trans hb3⟩
        · rw [if_neg hc] at hr3 ⊢
          exact ⟨by rw [decide_eq_false hc], ⟨k1, ps ++ x, unhide HA1, by omega, hr3⟩, (unhide HB2).trans hb3⟩)
      clear hr3 hb3 SK2 HB2 HP2 HA1
      generalize decide (wdT c = [41]) = bb at *
      go_wp2
      refine bodyPost_ret (results_tmp rfl _ _ _) rfl ?_
      exact unhide HF
  · rw [if_neg hp, decide_eq_false hp] at SK
    have HP2 : Hid (P = .bad (t :: r)) := hide (by rw [← unhide HP]; exact pRd_6e (by rw [unhide HK]; exact h1) (by rw [unhide HK]; exact h2) (by rw [unhide HK]; exact h3) hp)
    clear hp HP
    go_wp2_with fail
    refine (unhide SK).mono ?_
    rintro e w1 ⟨rfl, hr1, hb1⟩
    have HF : Hid (RdR gr lv tk l d ps W P (.returned (.bool false)) w1) := hide (by
      rw [unhide HP2]
      exact ⟨rfl, ⟨k, ps, unhide HT, by omega, hr1⟩, (unhide HB0).trans hb1⟩)
    clear hr1 hb1 SK HP2
    go_wp2
    refine bodyPost_ret (results_tmp rfl _ _ _) rfl ?_
    exact unhide HF
end Go.Proofs.YtogklmljllocbabGreatDoor
namespace Go.Proofs.YtogklmljllocbabGreatDoor
open Go.RowKit Go.Shelf
attribute [local irreducible] opsV

theorem pRd_cb {f m d : Nat} {t : Tk} {r q : List Tk} (hm : m = 0 ∨ m = 1 ∨ m = 4 ∨ m = 5) (h : pRd f (m + 1) d [] (t :: r) = .bad q) : pRd (f + 1) m d [] (t :: r) = .bad q := by rw [pRd, if_neg (by omega), if_neg (by omega), if_neg (by omega), if_pos (by omega), h]
theorem pRd_cg {f m d : Nat} {t : Tk} {r q : List Tk} {x : List Pt} (hm : m = 0 ∨ m = 1 ∨ m = 4 ∨ m = 5) (h : pRd f (m + 1) d [] (t :: r) = .good x q) : pRd (f + 1) m d [] (t :: r) = pRd f (m + 10) d x q := by rw [pRd, if_neg (by omega), if_neg (by omega), if_neg (by omega), if_pos (by omega), h]
theorem pRd_ln {f m d : Nat} {acc : List Pt} {t : Tk} {r : List Tk} (h : opA m (wdT t) = none) : pRd (f + 1) (m + 10) d acc (t :: r) = .good acc (t :: r) := by rw [pRd, if_neg (by omega), if_neg (by omega), if_neg (by omega), if_neg (by omega), Nat.add_sub_cancel, h]
theorem pRd_lb {f m d : Nat} {acc : List Pt} {t : Tk} {r q : List Tk} {kk : Int} (h : opA m (wdT t) = some kk) (h2 : pRd f (m + 1) d [] r = .bad q) : pRd (f + 1) (m + 10) d acc (t :: r) = .bad q := by
  rw [pRd, if_neg (by omega), if_neg (by omega), if_neg (by omega), if_neg (by omega), Nat.add_sub_cancel, h]
  dsimp only
  rw [h2]
theorem pRd_lg {f m d : Nat} {acc y : List Pt} {t : Tk} {r q : List Tk} {kk : Int} (h : opA m (wdT t) = some kk) (h2 : pRd f (m + 1) d [] r = .good y q) : pRd (f + 1) (m + 10) d acc (t :: r) = pRd f (m + 10) d (opP kk :: (acc ++ y)) q := by
  rw [pRd, if_neg (by omega), if_neg (by omega), if_neg (by omega), if_neg (by omega), Nat.add_sub_cancel, h]
  dsimp only
  rw [h2]
end Go.Proofs.YtogklmljllocbabGreatDoor
namespace Go.Proofs.YtogklmljllocbabGreatDoor
open Go.RowKit Go.Shelf
attribute [local irreducible] opsV

/-- What lies there between two rounds of a chain. -/
def ChI (gr : Nat) (lv tk : Value) (l : List Tk) (m d f N : Nat) (ps : List Pt) (W : World) (R : PR) (b : Bool) (wr : World) : Prop := if b = true
  then ∃ f' acc k', f' ≤ f ∧ Rd gr lv tk l k' d (ps ++ acc) wr ∧ Endd (l.drop k') ∧ mRd (m + 10) (l.drop k') ≤ f' ∧ acc.length + (l.drop k').length ≤ N ∧ pRd f' (m + 10) d acc (l.drop k') = R ∧ Below gr W wr
  else ∃ k' ps', R = .bad (l.drop k') ∧ k' ≤ l.length ∧ Rd gr lv tk l k' d ps' wr ∧ Below gr W wr
def nxW (gr : Nat) (w : World) : Nat := match w.cell? ⟨gr, 72, none⟩ with
  | some v => (intOf v).toNat
  | none => 0
def msC (gr n : Nat) (v : Value) (w : World) : Nat := match v with
  | .bool true => n + 1 - nxW gr w
  | _ => 0
theorem nxW_rd {gr : Nat} {lv tk : Value} {l : List Tk} {k d : Nat} {ps : List Pt} {W : World} (h : Rd gr lv tk l k d ps W) : nxW gr W = k := by
  unfold nxW
  rw [h.cells.1]
  simp [intOf]
set_option maxHeartbeats 4000000 in
set_option maxRecDepth 100000 in
theorem chain_any {f : Nat} (IH : ∀ f', f' ≤ f → RdOK f') {gr : Nat} {lv tk : Value} {l : List Tk} {k d : Nat} {ps : List Pt} {W : World} (h : Rd gr lv tk l k d ps W) {t : Tk} {r : List Tk} (ht : l.drop k = t :: r) (m : Nat) (hm4 : m = 0 ∨ m = 1 ∨ m = 4 ∨ m = 5) (hE : Endd (t :: r)) (hd : d ≤ 200) (hps : ps.length + (t :: r).length ≤ 500000) (hm : mRd m (t :: r) ≤ f + 1) :
    Calls Tryz.prog 194 #[.pointer (some ⟨gr, 0, none⟩), .int .i64 (m : Int)] W (RdR gr lv tk l d ps W (pRd (f + 1) m d [] (t :: r))) := by
  obtain ⟨ad, cap, c74⟩ := h.len
  have hlr : (t :: r).length = r.length + 1 := rfl
  have hmm : 8 * (r.length + 1) + 7 - m ≤ f + 1 := by rw [mRd_le (by omega)] at hm; exact hm
  have RD : Hid (Calls Tryz.prog 150 #[.pointer (some ⟨gr, 0, none⟩), .int .i64 ((m : Int) + 1)] W (RdR gr lv tk l d ps W (pRd f (m + 1) d [] (t :: r)))) := hide (by
    have := IH f (Nat.le_refl _) gr lv tk l k d ps W (m + 1) h (by omega) (by rw [ht]; exact hE) hd (by rw [ht]; exact hps) (by rw [ht, mRd_le (by omega), hlr]; omega)
    rw [ht] at this
    exact this)
  obtain ⟨ok1, ok2⟩ := pRd_ok f (m + 1) d [] (t :: r) hE
  rw [if_pos (by omega)] at ok1
  have ok2 := ok2 (by omega)
  obtain ⟨R, hR⟩ : ∃ R, pRd (f + 1) m d [] (t :: r) = R := ⟨_, rfl⟩
  rw [hR]
  have hw1 : IntKind.i64.wrap ((m : Int) + 1) = (m : Int) + 1 := by rw [IntKind.wrap_i64]; omega
  have HST : Hid (∀ e w1, RdR gr lv tk l d ps W (pRd f (m + 1) d [] (t :: r)) e w1 → ∃ b, e = .returned (.bool b) ∧ ChI gr lv tk l m d f (t :: r).length ps W R b w1) := hide (fun e w1 h1 => by
    cases hA : pRd f (m + 1) d [] (t :: r) with
    | bad q =>
      rw [hA] at h1
      obtain ⟨rfl, ⟨k1, ps1, a1, a2, a3⟩, a4⟩ := h1
      refine ⟨false, rfl, ?_⟩
      unfold ChI
      rw [if_neg (by simp)]
      exact ⟨k1, ps1, by rw [← hR, pRd_cb hm4 hA, a1], a2, a3, a4⟩
    | good x q =>
      have hlt := ok2 x q hA
      rw [hA] at h1 ok1
      obtain ⟨hEq, hl1, _⟩ := ok1
      obtain ⟨rfl, ⟨k1, a1, a2, a3⟩, a4⟩ := h1
      refine ⟨true, rfl, ?_⟩
      unfold ChI
      rw [if_pos rfl]
      refine ⟨f, x, k1, Nat.le_refl _, a3, by rw [a1]; exact hEq, ?_, by rw [a1]; omega, by rw [a1, ← hR, pRd_cg hm4 hA], a4⟩
      rw [a1]
      unfold mRd
      rw [if_neg (by omega)]
      omega)
  have HIH := hide IH
  clear IH h ht hE hm hmm ok1 ok2 hR
  go_enter Tryz.func194, Tryz.ntmps194
  go_wp2_with fail
  refine (unhide RD).mono ?_
  intro e w1 hR1
  obtain ⟨b, rfl, hI⟩ := unhide HST e w1 hR1
  have HI0 := hide hI
  clear hI hR1 RD HST c74
  go_wp2
  go_loopw [6] (fun v wr => ∃ b, v = .bool b ∧ Hid (ChI gr lv tk l m d f (t :: r).length ps W R b wr)) (fun v wr => msC gr l.length v wr)
  case atStart => exact ⟨b, rfl, HI0⟩
  case round =>
    obtain ⟨b1, rfl, HI⟩ := hrel
    cases b1 with
    | false =>
      have HF : Hid (RdR gr lv tk l d ps W R (.returned (.bool false)) wr) := hide (by
        have := unhide HI
        unfold ChI at this
        rw [if_neg (by simp)] at this
        obtain ⟨k1, ps1, rfl, a2, a3, a4⟩ := this
        exact ⟨rfl, ⟨k1, ps1, rfl, a2, a3⟩, a4⟩)
      clear HI
      go_wp2
      refine bodyPost_ret (results_tmp rfl _ _ _) rfl ?_
      exact unhide HF
    | true =>
      have hI := unhide HI
      unfold ChI at hI
      rw [if_pos rfl] at hI
      obtain ⟨f', acc, k1, hf1, hr1, hE1, hm1, hl1, hp1, hb1⟩ := hI
      obtain ⟨c, q, hc⟩ : ∃ c q, l.drop k1 = c :: q := by
        cases hx : l.drop k1 with
        | nil => exact absurd hx hE1.ne
        | cons c q => exact ⟨c, q, rfl⟩
      rw [hc] at hE1 hm1 hl1 hp1
      obtain ⟨hk1, _, hc1⟩ := drop_at hc
      have hlq : (c :: q).length = q.length + 1 := rfl
      have hm2 : 8 * (q.length + 1) + 8 ≤ f' := by unfold mRd at hm1; rw [if_neg (by omega)] at hm1; exact hm1
      obtain ⟨f2, rfl⟩ : ∃ f2, f' = f2 + 1 := ⟨f' - 1, by omega⟩
      have hms : msC gr l.length (.bool true) wr = l.length + 1 - k1 := by unfold msC; rw [nxW_rd hr1]
      have HMS := hide hms
      have TO := hide (takeOp_any hr1 hc m (by omega) ps.length (by simp) (by rw [List.length_append]; omega))
      cases ho : opA m (wdT c) with
      | none =>
        rw [ho] at TO
        rw [pRd_ln ho] at hp1
        have HK := hide (And.intro hp1 (And.intro hc hb1))
        clear hr1 hE1 hm1 hp1 hb1 hms ho hc hc1 HI HI0
        go_wp2_with fail
        refine (unhide TO).mono ?_
        rintro e w2 ⟨rfl, b1, b2⟩
        have HF : Hid (RdR gr lv tk l d ps W R (.returned (.bool true)) w2) := hide (by
          rw [← (unhide HK).1]
          exact ⟨rfl, ⟨k1, (unhide HK).2.1, by omega, b1⟩, (unhide HK).2.2.trans b2⟩)
        clear b1 b2 TO HK
        go_wp2
        refine bodyPost_ret (results_tmp rfl _ _ _) rfl ?_
        exact unhide HF
      | some kk =>
        rw [ho] at TO
        have hE2 := hE1.tail (opA_kd ho)
        have HRD : Hid (∀ w2, Rd gr lv tk l (k1 + 1) d (ps ++ opP kk :: acc) w2 → Calls Tryz.prog 150 #[.pointer (some ⟨gr, 0, none⟩), .int .i64 ((m : Int) + 1)] w2 (RdR gr lv tk l d (ps ++ opP kk :: acc) w2 (pRd f2 (m + 1) d [] q))) := hide (fun w2 hr2 => by
          have := unhide HIH f2 (by omega) gr lv tk l (k1 + 1) d (ps ++ opP kk :: acc) w2 (m + 1) hr2 (by omega) (by rw [hc1]; exact hE2) hd (by rw [hc1, List.length_append, List.length_cons]; omega) (by rw [hc1, mRd_le (by omega)]; omega)
          rw [hc1] at this
          exact this)
        obtain ⟨ok1, ok2⟩ := pRd_ok f2 (m + 1) d [] q hE2
        rw [if_pos (by omega)] at ok1
        have ok2 := ok2 (by omega)
        have HST : Hid (∀ e w2 w3, Below gr wr w2 → RdR gr lv tk l d (ps ++ opP kk :: acc) w2 (pRd f2 (m + 1) d [] q) e w3 → ∃ b, e = .returned (.bool b) ∧ ChI gr lv tk l m d f (t :: r).length ps W R b w3 ∧ msC gr l.length (.bool b) w3 < l.length + 1 - k1) := hide (fun e w2 w3 hb2 h1 => by
          cases hA : pRd f2 (m + 1) d [] q with
          | bad s =>
            rw [hA] at h1
            obtain ⟨rfl, ⟨k2, ps2, a1, a2, a3⟩, a4⟩ := h1
            refine ⟨false, rfl, ?_, by show 0 < _; omega⟩
            unfold ChI
            rw [if_neg (by simp)]
            exact ⟨k2, ps2, by rw [← hp1, pRd_lb ho hA, a1], a2, a3, (hb1.trans hb2).trans a4⟩
          | good y s =>
            have hlt := ok2 y s hA
            rw [hA] at h1 ok1
            obtain ⟨hEs, hl2, _⟩ := ok1
            obtain ⟨rfl, ⟨k2, a1, a2, a3⟩, a4⟩ := h1
            have hkk : k1 < k2 := by
              have e1 : (l.drop k2).length = l.length - k2 := List.length_drop
              have e2 : (l.drop (k1 + 1)).length = l.length - (k1 + 1) := List.length_drop
              rw [a1] at e1
              rw [hc1] at e2
              omega
            refine ⟨true, rfl, ?_, by show l.length + 1 - nxW gr w3 < _; rw [nxW_rd a3]; omega⟩
            unfold ChI
            rw [if_pos rfl]
            refine ⟨f2, opP kk :: (acc ++ y), k2, by omega, by rw [List.append_assoc, List.cons_append] at a3; exact a3, by rw [a1]; exact hEs, ?_, by rw [a1, List.length_cons, List.length_append]; omega, by rw [a1, ← hp1, pRd_lg ho hA], (hb1.trans hb2).trans a4⟩
            rw [a1]
            unfold mRd
            rw [if_neg (by omega)]
            omega)
        clear hr1 hE1 hm1 hp1 hb1 hms ho hc hc1 HI HI0 hE2 ok1 ok2
        go_wp2_with fail
        refine (unhide TO).mono ?_
        rintro e w2 ⟨rfl, b1, b2⟩
        rw [ins_at] at b1
        have RD2 := hide (unhide HRD w2 b1)
        have HB2 := hide b2
        clear b1 b2 TO HRD
        go_wp2_with fail
        refine (unhide RD2).mono ?_
        intro e w3 hR3
        obtain ⟨b3, rfl, hI3, hms3⟩ := unhide HST e w2 w3 (unhide HB2) hR3
        have HI3 := hide hI3
        have HM3 := hide hms3
        clear hR3 hI3 hms3 RD2 HST HB2
        go_wp2
        go_roundw
        case rel => exact ⟨b3, rfl, HI3⟩
        case measure => rw [unhide HMS]; exact unhide HM3
end Go.Proofs.YtogklmljllocbabGreatDoor
namespace Go.Proofs.YtogklmljllocbabGreatDoor
open Go.RowKit Go.Shelf
attribute [local irreducible] opsV

set_option maxHeartbeats 4000000 in
set_option maxRecDepth 100000 in
theorem read_step {gr : Nat} {lv tk : Value} {l : List Tk} {k d : Nat} {ps : List Pt} {W : World} (h : Rd gr lv tk l k d ps W) (m : Nat) (hm : m < 7) {P : PR}
    (hen : ∀ args w, (callFunc (lvF m) args).run Tryz.prog w = .ok (.enter (lvF m) args) w)
    (HC : Calls Tryz.prog (lvF m) #[.pointer (some ⟨gr, 0, none⟩), .int .i64 (m : Int)] W (RdR gr lv tk l d ps W P)) :
    Calls Tryz.prog 150 #[.pointer (some ⟨gr, 0, none⟩), .int .i64 (m : Int)] W (RdR gr lv tk l d ps W P) := by
  obtain ⟨pv, hb, _⟩ := h.box
  have c0 := hb.cell (rdC_0 lv tk k d pv)
  obtain ⟨gl, hlv, _, hc⟩ := h.env.lvs
  have c1 := (hc m hm).1
  rw [hlv] at c0
  have HCC := hide HC
  have HEN := hide hen
  clear h hb hc hlv HC hen
  generalize lvF m = FN at *
  go_enter Tryz.func150, Tryz.ntmps150
  go_wp2_with fail
  rw [unhide HEN, Oper.upon_enter]
  refine (unhide HCC).mono ?_
  intro e w1 hR
  obtain rfl := hR.ret
  have HF := hide hR
  clear hR HCC HEN c0 c1
  generalize P.ok = b at *
  dsimp only
  go_wp2
  refine bodyPost_ret (results_tmp rfl _ _ _) rfl ?_
  exact unhide HF
theorem rd_any : ∀ f, RdOK f := by
  intro f
  induction f using Nat.strongRecOn with
  | ind f ih =>
    intro gr lv tk l k d ps W m h hm hE hd hps hf
    cases hts : l.drop k with
    | nil => exact absurd hts hE.ne
    | cons t r =>
      rw [hts] at hE hps hf
      cases f with
      | zero =>
        exfalso
        rw [mRd_le hm, List.length_cons] at hf
        omega
      | succ f =>
        have IH : ∀ f', f' ≤ f → RdOK f' := fun f' hf' => ih f' (by omega)
        rcases (show m = 0 ∨ m = 1 ∨ m = 2 ∨ m = 3 ∨ m = 4 ∨ m = 5 ∨ m = 6 by omega) with rfl | rfl | rfl | rfl | rfl | rfl | rfl
        · exact read_step h 0 (by omega) (enters_of Tryz.func194 (by kernel_rfl) rfl) (chain_any IH h hts 0 (by omega) hE hd hps hf)
        · exact read_step h 1 (by omega) (enters_of Tryz.func194 (by kernel_rfl) rfl) (chain_any IH h hts 1 (by omega) hE hd hps hf)
        · exact read_step h 2 (by omega) (enters_of Tryz.func195 (by kernel_rfl) rfl) (denial_any (IH f (Nat.le_refl _)) h hts hE hd hps hf)
        · exact read_step h 3 (by omega) (enters_of Tryz.func196 (by kernel_rfl) rfl) (pair_any (IH f (Nat.le_refl _)) h hts hE hd hps hf)
        · exact read_step h 4 (by omega) (enters_of Tryz.func194 (by kernel_rfl) rfl) (chain_any IH h hts 4 (by omega) hE hd hps hf)
        · exact read_step h 5 (by omega) (enters_of Tryz.func194 (by kernel_rfl) rfl) (chain_any IH h hts 5 (by omega) hE hd hps hf)
        · exact read_step h 6 (by omega) (enters_of Tryz.func197 (by kernel_rfl) rfl) (leaf_any (IH f (Nat.le_refl _)) h hts hE hd hps hf)
end Go.Proofs.YtogklmljllocbabGreatDoor
