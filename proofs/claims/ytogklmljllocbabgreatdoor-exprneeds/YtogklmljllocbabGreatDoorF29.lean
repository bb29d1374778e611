/-
  The reader reads a field.
  The reader: what lies one deeper; a denial; a pair.
  The reader reads a pair.
-/
import Derived.Test.YtogklmljllocbabGreatDoorF28
namespace Go.Proofs.YtogklmljllocbabGreatDoor
open Go.RowKit Go.Shelf
attribute [local irreducible] opsV

theorem gr_le {gr : Nat} {lv tk : Value} {l : List Tk} {k d : Nat} {ps : List Pt} {W : World} (h : Rd gr lv tk l k d ps W) : gr ≤ W.heap.size := by
  have := h.cells
  omega
set_option maxHeartbeats 4000000 in
set_option maxRecDepth 100000 in
/-- A field's word, with a stage or none. -/
theorem field_no {gr : Nat} {lv tk : Value} {l : List Tk} {k d : Nat} {ps : List Pt} {W : World} (h : Rd gr lv tk l k d ps W) {t : Tk} {r : List Tk} (ht : l.drop k = t :: r) (hps : ps.length ≤ 1000000) (hfr : freeW (wdT t) = false) :
    Calls Tryz.prog 222 #[.pointer (some ⟨gr, 0, none⟩)] W (RdR gr lv tk l d ps W (fdE (txt []) (t :: r))) := by
  obtain ⟨hkl, _, hd1⟩ := drop_at ht
  have hk : k ≤ 100000 := by have := h.env.len; omega
  have WD := hide (word_any h ht)
  have HR := hide h
  have HT := hide ht
  have FR := hide (fun w (hT : TbE w) => isFree_any (wdS t) w hT)
  have FO := hide (fun w (hT : TbE w) => fieldOf_any (wdS t) w hT)
  rw [wdS_list, hfr] at FR
  rw [wdS_list] at FO
  have hg := gr_le h
  have hpr : fdE (txt []) (t :: r) = if 0 ≤ fldOf (wdT t) then .good [⟨3, 0, txt [], txt [], fldOf (wdT t)⟩] r else .bad (t :: r) := rfl
  obtain ⟨F, hF⟩ : ∃ F, fldOf (wdT t) = F := ⟨_, rfl⟩
  rw [hF] at FO hpr
  have HPR := hide hpr
  clear hpr
  generalize fdE (txt []) (t :: r) = PRl at *
  clear h ht hfr hF
  go_enter Tryz.func222, Tryz.ntmps222
  go_wp2_with fail
  refine (unhide WD).mono ?_
  rintro e w1 ⟨rfl, hb1⟩
  have HR1 := hide ((unhide HR).below hb1)
  have HB1 := hide (hb1.mono hg)
  clear hb1 WD HR
  go_wp2_with fail
  refine (unhide FR w1 (unhide HR1).env.tab).mono ?_
  rintro e w1' ⟨rfl, rfl⟩
  have WD1 := hide (word_any (unhide HR1) (unhide HT))
  clear FR
  go_wp2_with fail
  refine (unhide WD1).mono ?_
  rintro e w2 ⟨rfl, hb2⟩
  have HR2 := hide ((unhide HR1).below hb2)
  have HB2 := hide ((unhide HB1).trans (hb2.mono (gr_le (unhide HR1))))
  clear hb2 WD1 HR1 HB1
  go_wp2_with fail
  refine (unhide FO w2 (unhide HR2).env.tab).mono ?_
  rintro e w2' ⟨rfl, rfl⟩
  clear FO
  by_cases h0 : 0 ≤ F
  · have h0' : ((0 : Int) ≤ F) = True := by simp [h0]
    have TA := hide (take_any (unhide HR2) ⟨3, 0, txt [], txt [], F⟩ hk hps)
    unfold Pt.v at TA
    go_wp2_with fail
    refine (unhide TA).mono ?_
    rintro e w3 ⟨rfl, hr3, hb3⟩
    have HE := hide (And.intro hr3 ((unhide HB2).trans hb3))
    clear hr3 hb3 TA
    go_wp2
    refine bodyPost_ret (results_tmp rfl _ _ _) rfl ?_
    rw [unhide HPR, if_pos h0]
    exact ⟨rfl, ⟨k + 1, hd1, by omega, (unhide HE).1⟩, (unhide HE).2⟩
  · have h0' : ((0 : Int) ≤ F) = False := by simp; omega
    go_wp2
    refine bodyPost_ret (results_tmp rfl _ _ _) rfl ?_
    rw [unhide HPR, if_neg (by omega)]
    exact ⟨rfl, ⟨k, ps, unhide HT, by omega, unhide HR2⟩, unhide HB2⟩
set_option maxHeartbeats 4000000 in
set_option maxRecDepth 100000 in
theorem field_st {gr : Nat} {lv tk : Value} {l : List Tk} {k d : Nat} {ps : List Pt} {W : World} (h : Rd gr lv tk l k d ps W) {t c : Tk} {q : List Tk} (ht : l.drop k = t :: c :: q) (hk1 : t.kd = 1) (hq : wdT c = [46] → q ≠ []) (hps : ps.length ≤ 1000000) (hfr : freeW (wdT t) = true) :
    Calls Tryz.prog 222 #[.pointer (some ⟨gr, 0, none⟩)] W (RdR gr lv tk l d ps W (if wdT c = [46] then fdE t.s q else .bad (c :: q))) := by
  obtain ⟨hkl, hat, hd1⟩ := drop_at ht
  obtain ⟨hkl1, _, hd2⟩ := drop_at hd1
  have hk : k ≤ 90000000 := by have := h.env.len; omega
  have hk2 : k + 1 + 1 ≤ 100000 := by have := h.env.len; omega
  have WD := hide (word_any h ht)
  have HR := hide h
  have HT1 := hide hd1
  have HT2 := hide hd2
  have hws : wdS t = t.s := by unfold wdS; rw [if_pos (Or.inl hk1)]
  have hsz : t.s.size ≤ 281474976710656 := by have := h.env.ok t (by rw [← hat]; exact List.getElem_mem hkl); omega
  have FR := hide (fun w (hT : TbE w) => isFree_any (wdS t) w hT)
  have CL := hide (fun w => clone_any t.s w hsz)
  rw [wdS_list, hfr, hws] at FR
  rw [hws] at WD
  have hg := gr_le h
  have SK := hide (fun W' (hr : Rd gr lv tk l (k + 1) d ps W') => skip_any hr hd1 ⟨#[46]⟩)
  rw [show (⟨#[46]⟩ : ByteArray).data.toList = [46] from rfl] at SK
  clear h ht hfr hat hws hsz hd1 hd2
  obtain ⟨PRl, hpr⟩ : ∃ P, (if wdT c = [46] then fdE t.s q else .bad (c :: q)) = P := ⟨_, rfl⟩
  rw [hpr]
  have HPR := hide hpr
  clear hpr
  generalize t.s = ST at *
  go_enter Tryz.func222, Tryz.ntmps222
  go_wp2_with fail
  refine (unhide WD).mono ?_
  rintro e w1 ⟨rfl, hb1⟩
  have HR1 := hide ((unhide HR).below hb1)
  have HB1 := hide (hb1.mono hg)
  clear hb1 WD HR
  go_wp2_with fail
  refine (unhide FR w1 (unhide HR1).env.tab).mono ?_
  rintro e w1' ⟨rfl, rfl⟩
  clear FR
  go_wp2_with fail
  refine (unhide CL w1').mono ?_
  rintro e w2 ⟨rfl, hb2⟩
  have HR2 := hide ((unhide HR1).below hb2)
  have HB2 := hide ((unhide HB1).trans (hb2.mono (gr_le (unhide HR1))))
  obtain ⟨c72, _, f72, _⟩ := (unhide HR2).cells
  have HR3 := hide (unhide HR2).next
  have HB3 := hide ((unhide HB2).setCell (p := ⟨gr, 72, none⟩) (Nat.le_refl _) (.int .i64 ((k : Int) + 1)))
  clear hb2 HR1 HB1 CL HR2 HB2
  go_wp2_with fail
  refine (unhide SK _ (unhide HR3)).mono ?_
  rintro e w3 ⟨rfl, hr3, hb3⟩
  have HB4 := hide ((unhide HB3).trans hb3)
  have HR4 := hide hr3
  clear hr3 hb3 c72 f72 SK HB3 HR3
  by_cases hc : wdT c = [46]
  · rw [if_pos hc] at HR4 HPR
    rw [decide_eq_true hc]
    obtain ⟨x, s, rfl⟩ : ∃ x s, q = x :: s := by
      cases q with
      | nil => exact absurd rfl (hq hc)
      | cons x s => exact ⟨x, s, rfl⟩
    obtain ⟨hkl2, _, hd3⟩ := drop_at (unhide HT2)
    have WD2 := hide (word_any (unhide HR4) (unhide HT2))
    have FO := hide (fun w (hT : TbE w) => fieldOf_any (wdS x) w hT)
    rw [wdS_list] at FO
    have hpr : fdE ST (x :: s) = if 0 ≤ fldOf (wdT x) then .good [⟨3, 0, txt [], ST, fldOf (wdT x)⟩] s else .bad (x :: s) := rfl
    rw [hpr] at HPR
    obtain ⟨F, hF⟩ : ∃ F, fldOf (wdT x) = F := ⟨_, rfl⟩
    rw [hF] at FO HPR
    clear hpr hF hc hq
    go_wp2_with fail
    refine (unhide WD2).mono ?_
    rintro e w4 ⟨rfl, hb4⟩
    have HR5 := hide ((unhide HR4).below hb4)
    have HB5 := hide ((unhide HB4).trans (hb4.mono (gr_le (unhide HR4))))
    clear hb4 WD2 HR4 HB4
    go_wp2_with fail
    refine (unhide FO w4 (unhide HR5).env.tab).mono ?_
    rintro e w4' ⟨rfl, rfl⟩
    clear FO
    by_cases h0 : 0 ≤ F
    · have h0' : ((0 : Int) ≤ F) = True := by simp [h0]
      have TA := hide (take_any (unhide HR5) ⟨3, 0, txt [], ST, F⟩ hk2 hps)
      unfold Pt.v at TA
      go_wp2_with fail
      refine (unhide TA).mono ?_
      rintro e w5 ⟨rfl, hr6, hb6⟩
      have HE := hide (And.intro hr6 ((unhide HB5).trans hb6))
      clear hr6 hb6 TA
      go_wp2
      refine bodyPost_ret (results_tmp rfl _ _ _) rfl ?_
      rw [← unhide HPR, if_pos h0]
      exact ⟨rfl, ⟨k + 1 + 1 + 1, hd3, by omega, (unhide HE).1⟩, (unhide HE).2⟩
    · have h0' : ((0 : Int) ≤ F) = False := by simp; omega
      go_wp2
      refine bodyPost_ret (results_tmp rfl _ _ _) rfl ?_
      rw [← unhide HPR, if_neg (by omega)]
      exact ⟨rfl, ⟨k + 1 + 1, ps, unhide HT2, by omega, unhide HR5⟩, unhide HB5⟩
  · rw [if_neg hc] at HR4 HPR
    rw [decide_eq_false hc]
    clear hc
    go_wp2
    refine bodyPost_ret (results_tmp rfl _ _ _) rfl ?_
    rw [← unhide HPR]
    exact ⟨rfl, ⟨k + 1, ps, unhide HT1, by omega, unhide HR4⟩, unhide HB4⟩
/-- What a word is read as. -/
theorem field_any {gr : Nat} {lv tk : Value} {l : List Tk} {k d : Nat} {ps : List Pt} {W : World} (h : Rd gr lv tk l k d ps W) {t : Tk} {r : List Tk} (ht : l.drop k = t :: r) (hk1 : t.kd = 1) (hE : Endd (t :: r)) (hps : ps.length ≤ 1000000) :
    Calls Tryz.prog 222 #[.pointer (some ⟨gr, 0, none⟩)] W (RdR gr lv tk l d ps W (fdR t r)) := by
  unfold fdR
  cases hf : freeW (wdT t) with
  | false => exact field_no h ht hps hf
  | true =>
    have hr := hE.tail (by omega)
    cases r with
    | nil => exact absurd rfl hr.ne
    | cons c q => exact field_st h ht hk1 (fun hc => (hr.tail (wdT_kd (by rw [hc]; simp))).ne) hps hf
end Go.Proofs.YtogklmljllocbabGreatDoor
namespace Go.Proofs.YtogklmljllocbabGreatDoor
open Go.RowKit Go.Shelf
attribute [local irreducible] opsV

/-- Reading with so much fuel tells what the plain reader tells. -/
def RdOK (f : Nat) : Prop := ∀ (gr : Nat) (lv tk : Value) (l : List Tk) (k d : Nat) (ps : List Pt) (W : World) (m : Nat), Rd gr lv tk l k d ps W → m ≤ 6 → Endd (l.drop k) → d ≤ 200 → ps.length + (l.drop k).length ≤ 500000 → mRd m (l.drop k) ≤ f →
  Calls Tryz.prog 150 #[.pointer (some ⟨gr, 0, none⟩), .int .i64 (m : Int)] W (RdR gr lv tk l d ps W (pRd f m d [] (l.drop k)))
theorem Rd.deep {gr : Nat} {lv tk : Value} {l : List Tk} {k d : Nat} {ps : List Pt} {W : World} (h : Rd gr lv tk l k d ps W) (d' : Nat) : Rd gr lv tk l k d' ps (W.setCell ⟨gr, 73, none⟩ (.int .i64 (d' : Int))) := by
  obtain ⟨pv, h1, h2⟩ := h.box
  have hlt := (Array.getElem?_eq_some_iff.1 h1).1
  have c := h1.set 73 (.int .i64 (d' : Int))
  rw [rdC_d] at c
  exact ⟨h.env.below ((Kp.set W gr 73 _).below (by omega) (by simp)), pv, c, row_kp h2 (Kp.set _ _ _ _) (fun g hg => by have := (h2.lt g hg).1; simp; omega)⟩
/-- What reading leaves, said of the answer as a truth. -/
def PR.ok : PR → Bool
  | .bad _ => false
  | .good _ _ => true
def PR.st (o : PR) (ps : List Pt) (ps' : List Pt) : Prop := match o with
  | .good x _ => ps' = ps ++ x
  | .bad _ => True
theorem RdR.to {gr : Nat} {lv tk : Value} {l : List Tk} {d : Nat} {ps : List Pt} {W : World} {o : PR} {e : Ending} {w' : World} (h : RdR gr lv tk l d ps W o e w') : e = .returned (.bool o.ok) ∧ ∃ k ps', l.drop k = o.rest ∧ k ≤ l.length ∧ Rd gr lv tk l k d ps' w' ∧ o.st ps ps' ∧ Below gr W w' := by
  cases o with
  | bad q => obtain ⟨rfl, ⟨k, ps', h1, h2, h3⟩, h4⟩ := h; exact ⟨rfl, k, ps', h1, h2, h3, trivial, h4⟩
  | good x q => obtain ⟨rfl, ⟨k, h1, h2, h3⟩, h4⟩ := h; exact ⟨rfl, k, _, h1, h2, h3, rfl, h4⟩
theorem RdR.of {gr : Nat} {lv tk : Value} {l : List Tk} {k d : Nat} {ps ps' : List Pt} {W : World} {o : PR} {w' : World} (h1 : l.drop k = o.rest) (h2 : k ≤ l.length) (h3 : Rd gr lv tk l k d ps' w') (hs : o.st ps ps') (h4 : Below gr W w') : RdR gr lv tk l d ps W o (.returned (.bool o.ok)) w' := by
  cases o with
  | bad q => exact ⟨rfl, ⟨k, ps', h1, h2, h3⟩, h4⟩
  | good x q => obtain rfl := hs; exact ⟨rfl, ⟨k, h1, h2, h3⟩, h4⟩
def inP (f n d : Nat) (ts : List Tk) : PR := if d + 1 ≤ 200 then pRd f n (d + 1) [] ts else .bad ts
set_option maxHeartbeats 4000000 in
set_option maxRecDepth 100000 in
theorem inner_any {f : Nat} (IH : RdOK f) {gr : Nat} {lv tk : Value} {l : List Tk} {k d : Nat} {ps : List Pt} {W : World} (h : Rd gr lv tk l k d ps W) (n : Nat) (hn : n ≤ 6) (hE : Endd (l.drop k)) (hd : d ≤ 200) (hps : ps.length + (l.drop k).length ≤ 500000) (hm : mRd n (l.drop k) ≤ f) (hkl : k ≤ l.length) :
    Calls Tryz.prog 220 #[.pointer (some ⟨gr, 0, none⟩), .int .i64 (n : Int)] W (RdR gr lv tk l d ps W (inP f n d (l.drop k))) := by
  obtain ⟨_, c73, fz, hgl⟩ := h.cells
  have e1 : ((d : Int) + 1) = ((d + 1 : Nat) : Int) := by omega
  have HD := hide (h.deep (d + 1))
  rw [← e1] at HD
  have HB := hide ((Below.refl gr W).setCell (p := ⟨gr, 73, none⟩) (Nat.le_refl _) (.int .i64 ((d : Int) + 1)))
  have HRD : Hid (∀ W', Rd gr lv tk l k (d + 1) ps W' → d + 1 ≤ 200 → Calls Tryz.prog 150 #[.pointer (some ⟨gr, 0, none⟩), .int .i64 (n : Int)] W' (RdR gr lv tk l (d + 1) ps W' (pRd f n (d + 1) [] (l.drop k)))) := hide (fun W' hr hd' => IH gr lv tk l k (d + 1) ps W' n hr hn hE hd' hps hm)
  obtain ⟨P, hP⟩ : ∃ P, inP f n d (l.drop k) = P := ⟨_, rfl⟩
  rw [hP]
  have HP := hide hP
  clear h hE hm hP e1 IH
  by_cases hdd : d + 1 ≤ 200
  · have hc1 : ((d : Int) + 1 ≤ 200) = True := by simp; omega
    have HP2 : Hid (pRd f n (d + 1) [] (l.drop k) = P) := hide (by rw [← unhide HP]; unfold inP; rw [if_pos hdd])
    have RD := hide (unhide HRD _ (unhide HD) hdd)
    rw [unhide HP2] at RD
    have c73' := (unhide HD).cells.2.1
    have e2 : ((d + 1 : Nat) : Int) = (d : Int) + 1 := by omega
    rw [e2] at c73'
    have hw : IntKind.i64.wrap ((d : Int) + 1 - 1) = (d : Int) := by rw [IntKind.wrap_i64]; omega
    clear HRD HP HP2
    go_enter Tryz.func220, Tryz.ntmps220
    go_wp2_with fail
    refine (unhide RD).mono ?_
    intro e w1 hR
    obtain ⟨rfl, k1, ps1, a1, a2, a3, a4, a5⟩ := hR.to
    obtain ⟨_, d73, fz1, _⟩ := a3.cells
    rw [e2] at d73
    have HF := hide (And.intro a1 (And.intro a2 (And.intro (a3.deep d) (And.intro a4 (((unhide HB).trans a5).setCell (p := ⟨gr, 73, none⟩) (Nat.le_refl _) (.int .i64 (d : Int)))))))
    clear hR a1 a2 a3 a4 a5 RD HD HB c73 c73' fz e2
    generalize hok : P.ok = b at *
    have HOK := hide hok
    clear hok
    go_wp2
    refine bodyPost_ret (results_tmp rfl _ _ _) rfl ?_
    obtain ⟨q1, q2, q3, q4, q5⟩ := unhide HF
    have := RdR.of q1 q2 q3 q4 q5
    rw [unhide HOK] at this
    exact this
  · have hc1 : ((d : Int) + 1 ≤ 200) = False := by simp; omega
    obtain rfl : P = .bad (l.drop k) := by rw [← unhide HP]; unfold inP; rw [if_neg hdd]
    have c73' := (unhide HD).cells.2.1
    have fz' := (unhide HD).cells.2.2.1
    have e2 : ((d + 1 : Nat) : Int) = (d : Int) + 1 := by omega
    rw [e2] at c73'
    have HF := hide (And.intro ((unhide HD).deep d) ((unhide HB).setCell (p := ⟨gr, 73, none⟩) (Nat.le_refl _) (.int .i64 (d : Int))))
    have hw : IntKind.i64.wrap ((d : Int) + 1 - 1) = (d : Int) := by rw [IntKind.wrap_i64]; omega
    clear HRD HP e2
    go_enter Tryz.func220, Tryz.ntmps220
    go_wp2
    refine bodyPost_ret (results_tmp rfl _ _ _) rfl ?_
    exact ⟨rfl, ⟨k, ps, rfl, hkl, (unhide HF).1⟩, (unhide HF).2⟩
def preO (kk : Int) : PR → PR
  | .bad q => .bad q
  | .good x q => .good (opP kk :: x) q
theorem preO_ok (kk : Int) (P : PR) : (preO kk P).ok = P.ok := by cases P <;> rfl
theorem pRd_2n {f d : Nat} {t : Tk} {r : List Tk} (h : opA 2 (wdT t) = none) : pRd (f + 1) 2 d [] (t :: r) = pRd f 3 d [] (t :: r) := by rw [pRd, if_neg (by omega), if_pos rfl, h]
theorem pRd_2s {f d : Nat} {t : Tk} {r : List Tk} {kk : Int} (h : opA 2 (wdT t) = some kk) : pRd (f + 1) 2 d [] (t :: r) = preO kk (inP f 2 d r) := by
  rw [pRd, if_neg (by omega), if_pos rfl, h]
  unfold inP
  dsimp only
  split
  · cases pRd f 2 (d + 1) [] r <;> rfl
  · rfl
theorem RdR.pre {gr : Nat} {lv tk : Value} {l : List Tk} {d : Nat} {ps : List Pt} {W W1 : World} {o : PR} {kk : Int} {e : Ending} {w' : World} (h : RdR gr lv tk l d (ps ++ [opP kk]) W1 o e w') (hb : Below gr W W1) : RdR gr lv tk l d ps W (preO kk o) e w' := by
  cases o with
  | bad q => exact ⟨h.1, h.2.1, hb.trans h.2.2⟩
  | good x q =>
    obtain ⟨k, a1, a2, a3⟩ := h.2.1
    exact ⟨h.1, ⟨k, a1, a2, by rw [List.append_assoc] at a3; exact a3⟩, hb.trans h.2.2⟩
theorem RdR.ret {gr : Nat} {lv tk : Value} {l : List Tk} {d : Nat} {ps : List Pt} {W : World} {o : PR} {e : Ending} {w' : World} (h : RdR gr lv tk l d ps W o e w') : e = .returned (.bool o.ok) := by cases o <;> exact h.1
theorem Rd.len {gr : Nat} {lv tk : Value} {l : List Tk} {k d : Nat} {ps : List Pt} {W : World} (h : Rd gr lv tk l k d ps W) : ∃ (ad : Option Addr) (cap : Nat), W.cell? ⟨gr, 74, none⟩ = some (.slice ad ps.length cap) := by
  obtain ⟨pv, h1, h2⟩ := h.box
  obtain ⟨_, ⟨rfl, h0⟩ | ⟨g, cap, cur, rfl, _⟩⟩ := h2
  · exact ⟨none, 0, by rw [h0]; exact h1.cell (rdC_74 lv tk k d _)⟩
  · exact ⟨_, cap, h1.cell (rdC_74 lv tk k d _)⟩
set_option maxHeartbeats 4000000 in
set_option maxRecDepth 100000 in
theorem denial_any {f : Nat} (IH : RdOK f) {gr : Nat} {lv tk : Value} {l : List Tk} {k d : Nat} {ps : List Pt} {W : World} (h : Rd gr lv tk l k d ps W) {t : Tk} {r : List Tk} (ht : l.drop k = t :: r) (hE : Endd (t :: r)) (hd : d ≤ 200) (hps : ps.length + (t :: r).length ≤ 500000) (hm : mRd 2 (t :: r) ≤ f + 1) :
    Calls Tryz.prog 195 #[.pointer (some ⟨gr, 0, none⟩), .int .i64 2] W (RdR gr lv tk l d ps W (pRd (f + 1) 2 d [] (t :: r))) := by
  obtain ⟨hkl, _, hd1⟩ := drop_at ht
  obtain ⟨ad, cap, c74⟩ := h.len
  have hlr : (t :: r).length = r.length + 1 := rfl
  have hmm : 8 * (r.length + 1) + 7 - 2 ≤ f + 1 := by rw [mRd_le (by omega)] at hm; exact hm
  have TO : Hid (Calls Tryz.prog 219 #[.pointer (some ⟨gr, 0, none⟩), .int .i64 2, .int .i64 (ps.length : Int)] W (TkO gr lv tk l k d ps ps.length W (opA 2 (wdT t)))) := hide (takeOp_any h ht 2 (by omega) ps.length (Nat.le_refl _) (by omega))
  have HIH := hide IH
  have HT := hide ht
  have HE := hide hE
  cases ho : opA 2 (wdT t) with
  | none =>
    rw [ho] at TO
    rw [pRd_2n ho]
    obtain ⟨P, hP⟩ : ∃ P, pRd f 3 d [] (t :: r) = P := ⟨_, rfl⟩
    have HPR := hide hP
    rw [hP]
    clear hP hE ht IH h ho hm
    go_enter Tryz.func195, Tryz.ntmps195
    go_wp2_with fail
    refine (unhide TO).mono ?_
    rintro e w1 ⟨rfl, hr1, hb1⟩
    have RD : Hid (Calls Tryz.prog 150 #[.pointer (some ⟨gr, 0, none⟩), .int .i64 3] w1 (RdR gr lv tk l d ps w1 (pRd f 3 d [] (l.drop k)))) := hide (unhide HIH gr lv tk l k d ps w1 3 hr1 (by omega) (by rw [unhide HT]; exact unhide HE) hd (by rw [unhide HT]; exact hps) (by rw [unhide HT, mRd_le (by omega), hlr]; omega))
    rw [unhide HT, unhide HPR] at RD
    have HB1 := hide hb1
    clear hr1 hb1 TO HIH c74
    go_wp2_with fail
    refine (unhide RD).mono ?_
    intro e w2 hR
    obtain ⟨rfl, k1, ps1, a1, a2, a3, a4, a5⟩ := hR.to
    have HF := hide (And.intro a1 (And.intro a2 (And.intro a3 (And.intro a4 ((unhide HB1).trans a5)))))
    clear hR a1 a2 a3 a4 a5 RD HB1
    generalize hok : P.ok = b at *
    have HOK := hide hok
    clear hok
    go_wp2
    refine bodyPost_ret (results_tmp rfl _ _ _) rfl ?_
    obtain ⟨q1, q2, q3, q4, q5⟩ := unhide HF
    have := RdR.of q1 q2 q3 q4 q5
    rw [unhide HOK] at this
    exact this
  | some kk =>
    rw [ho] at TO
    rw [pRd_2s ho]
    have hEr := hE.tail (opA_kd ho)
    obtain ⟨Q, hQ⟩ : ∃ Q, inP f 2 d r = Q := ⟨_, rfl⟩
    rw [hQ]
    have IN0 := fun w1 (hr1 : Rd gr lv tk l (k + 1) d (ps ++ [opP kk]) w1) => inner_any IH hr1 2 (by omega) (by rw [hd1]; exact hEr) hd (by rw [hd1, List.length_append]; simp at hps ⊢; omega) (by rw [hd1, mRd_le (by omega)]; omega) (by omega)
    rw [hd1, hQ] at IN0
    have HIN := hide IN0
    clear hE ht IH h ho hm hEr IN0 hQ HIH HE HT
    go_enter Tryz.func195, Tryz.ntmps195
    go_wp2_with fail
    refine (unhide TO).mono ?_
    rintro e w1 ⟨rfl, hr1, hb1⟩
    rw [List.take_length, List.drop_length] at hr1
    have RD : Hid (Calls Tryz.prog 220 #[.pointer (some ⟨gr, 0, none⟩), .int .i64 2] w1 (RdR gr lv tk l d (ps ++ [opP kk]) w1 Q)) := hide (unhide HIN w1 hr1)
    have HB1 := hide hb1
    clear hr1 hb1 TO HIN c74
    go_wp2_with fail
    refine (unhide RD).mono ?_
    intro e w2 hR
    obtain rfl := hR.ret
    have HF := hide (hR.pre (unhide HB1))
    clear hR RD HB1
    generalize preO kk Q = PQ at *
    generalize Q.ok = b at *
    go_wp2
    refine bodyPost_ret (results_tmp rfl _ _ _) rfl ?_
    exact unhide HF
end Go.Proofs.YtogklmljllocbabGreatDoor
namespace Go.Proofs.YtogklmljllocbabGreatDoor
open Go.RowKit Go.Shelf
attribute [local irreducible] opsV

def midO (kk : Int) (x : List Pt) : PR → PR
  | .bad s => .bad s
  | .good y s => .good (opP kk :: (x ++ y)) s
theorem pRd_3b {f d : Nat} {t : Tk} {r q : List Tk} (h : pRd f 4 d [] (t :: r) = .bad q) : pRd (f + 1) 3 d [] (t :: r) = .bad q := by rw [pRd, if_neg (by omega), if_neg (by omega), if_pos rfl, h]
theorem pRd_3n {f d : Nat} {t c : Tk} {r q : List Tk} {x : List Pt} (h : pRd f 4 d [] (t :: r) = .good x (c :: q)) (ho : opA 3 (wdT c) = none) : pRd (f + 1) 3 d [] (t :: r) = .good x (c :: q) := by
  rw [pRd, if_neg (by omega), if_neg (by omega), if_pos rfl, h]
  dsimp only
  rw [ho]
theorem pRd_3s {f d : Nat} {t c : Tk} {r q : List Tk} {x : List Pt} {kk : Int} (h : pRd f 4 d [] (t :: r) = .good x (c :: q)) (ho : opA 3 (wdT c) = some kk) : pRd (f + 1) 3 d [] (t :: r) = midO kk x (pRd f 4 d [] q) := by
  rw [pRd, if_neg (by omega), if_neg (by omega), if_pos rfl, h]
  dsimp only
  rw [ho]
  dsimp only
  cases pRd f 4 d [] q <;> rfl
theorem RdR.mid {gr : Nat} {lv tk : Value} {l : List Tk} {d : Nat} {ps x : List Pt} {W W1 : World} {o : PR} {kk : Int} {e : Ending} {w' : World} (h : RdR gr lv tk l d (ps ++ opP kk :: x) W1 o e w') (hb : Below gr W W1) : RdR gr lv tk l d ps W (midO kk x o) e w' := by
  cases o with
  | bad q => exact ⟨h.1, h.2.1, hb.trans h.2.2⟩
  | good y q =>
    obtain ⟨k, a1, a2, a3⟩ := h.2.1
    exact ⟨h.1, ⟨k, a1, a2, by rw [List.append_assoc, List.cons_append] at a3; exact a3⟩, hb.trans h.2.2⟩
theorem ins_at (ps x : List Pt) (p : Pt) : (ps ++ x).take ps.length ++ p :: (ps ++ x).drop ps.length = ps ++ p :: x := by
  rw [List.take_left', List.drop_left'] <;> rfl
set_option maxHeartbeats 4000000 in
set_option maxRecDepth 100000 in
theorem pair_any {f : Nat} (IH : RdOK f) {gr : Nat} {lv tk : Value} {l : List Tk} {k d : Nat} {ps : List Pt} {W : World} (h : Rd gr lv tk l k d ps W) {t : Tk} {r : List Tk} (ht : l.drop k = t :: r) (hE : Endd (t :: r)) (hd : d ≤ 200) (hps : ps.length + (t :: r).length ≤ 500000) (hm : mRd 3 (t :: r) ≤ f + 1) :
    Calls Tryz.prog 196 #[.pointer (some ⟨gr, 0, none⟩), .int .i64 3] W (RdR gr lv tk l d ps W (pRd (f + 1) 3 d [] (t :: r))) := by
  obtain ⟨ad, cap, c74⟩ := h.len
  have hlr : (t :: r).length = r.length + 1 := rfl
  have hmm : 8 * (r.length + 1) + 7 - 3 ≤ f + 1 := by rw [mRd_le (by omega)] at hm; exact hm
  have RD : Hid (Calls Tryz.prog 150 #[.pointer (some ⟨gr, 0, none⟩), .int .i64 4] W (RdR gr lv tk l d ps W (pRd f 4 d [] (t :: r)))) := hide (by
    have := IH gr lv tk l k d ps W 4 h (by omega) (by rw [ht]; exact hE) hd (by rw [ht]; exact hps) (by rw [ht, mRd_le (by omega), hlr]; omega)
    rw [ht] at this
    exact this)
  obtain ⟨ok1, ok2⟩ := pRd_ok f 4 d [] (t :: r) hE
  rw [if_pos (by omega)] at ok1
  have ok2 := ok2 (by omega)
  have HIH := hide IH
  cases hA : pRd f 4 d [] (t :: r) with
  | bad q =>
    rw [hA] at RD
    rw [pRd_3b hA]
    clear h ht hE hps hm hmm hlr IH HIH ok1 ok2 hA
    go_enter Tryz.func196, Tryz.ntmps196
    go_wp2_with fail
    refine (unhide RD).mono ?_
    intro e w1 hR
    obtain rfl : e = .returned (.bool false) := hR.ret
    have HF := hide hR
    clear hR RD c74
    go_wp2
    refine bodyPost_ret (results_tmp rfl _ _ _) rfl ?_
    exact unhide HF
  | good x q =>
    rw [hA] at RD ok1
    obtain ⟨hEq, hlen1, _⟩ := ok1
    have hlt := ok2 x q hA
    cases q with
    | nil => exact absurd rfl hEq.ne
    | cons c q =>
      have hlq : (c :: q).length = q.length + 1 := rfl
      have TO0 := fun w1 k1 (hr : Rd gr lv tk l k1 d (ps ++ x) w1) (h1 : l.drop k1 = c :: q) => takeOp_any hr h1 3 (by omega) ps.length (by simp) (by rw [List.length_append]; omega)
      cases ho : opA 3 (wdT c) with
      | none =>
        rw [ho] at TO0
        rw [pRd_3n hA ho]
        have HTO := hide TO0
        clear h ht hE hps hm hmm IH HIH ok2 hA hEq hlen1 hlt TO0 hlq hlr ho
        go_enter Tryz.func196, Tryz.ntmps196
        go_wp2_with fail
        refine (unhide RD).mono ?_
        rintro e w1 ⟨rfl, ⟨k1, a1, a2, a3⟩, a4⟩
        have TO : Hid (Calls Tryz.prog 219 #[.pointer (some ⟨gr, 0, none⟩), .int .i64 3, .int .i64 (ps.length : Int)] w1 (TkO gr lv tk l k1 d (ps ++ x) ps.length w1 none)) := hide (unhide HTO w1 k1 a3 a1)
        have HA := hide (And.intro a1 (And.intro a2 a4))
        clear RD c74 a1 a2 a3 a4 HTO
        go_wp2_with fail
        refine (unhide TO).mono ?_
        rintro e w2 ⟨rfl, b1, b2⟩
        have HF : Hid (RdR gr lv tk l d ps W (.good x (c :: q)) (.returned (.bool true)) w2) := hide ⟨rfl, ⟨k1, (unhide HA).1, (unhide HA).2.1, b1⟩, (unhide HA).2.2.trans b2⟩
        clear b1 b2 TO HA
        go_wp2
        refine bodyPost_ret (results_tmp rfl _ _ _) rfl ?_
        exact unhide HF
      | some kk =>
        rw [ho] at TO0
        rw [pRd_3s hA ho]
        have HTO := hide TO0
        have hEq2 := hEq.tail (opA_kd ho)
        have HRD2 : Hid (∀ w1 k1, Rd gr lv tk l k1 d (ps ++ opP kk :: x) w1 → l.drop k1 = q → Calls Tryz.prog 150 #[.pointer (some ⟨gr, 0, none⟩), .int .i64 4] w1 (RdR gr lv tk l d (ps ++ opP kk :: x) w1 (pRd f 4 d [] q))) := hide (fun w1 k1 hr h1 => by
          have := IH gr lv tk l k1 d (ps ++ opP kk :: x) w1 4 hr (by omega) (by rw [h1]; exact hEq2) hd (by rw [h1, List.length_append, List.length_cons]; omega) (by rw [h1, mRd_le (by omega)]; omega)
          rw [h1] at this
          exact this)
        obtain ⟨Q, hQ⟩ : ∃ Q, pRd f 4 d [] q = Q := ⟨_, rfl⟩
        rw [hQ] at HRD2 ⊢
        clear h ht hE hps hm hmm IH HIH ok2 hA hEq hlen1 hlt TO0 hlq hlr ho hEq2 hQ
        go_enter Tryz.func196, Tryz.ntmps196
        go_wp2_with fail
        refine (unhide RD).mono ?_
        rintro e w1 ⟨rfl, ⟨k1, a1, a2, a3⟩, a4⟩
        have TO : Hid (Calls Tryz.prog 219 #[.pointer (some ⟨gr, 0, none⟩), .int .i64 3, .int .i64 (ps.length : Int)] w1 (TkO gr lv tk l k1 d (ps ++ x) ps.length w1 (some kk))) := hide (unhide HTO w1 k1 a3 a1)
        have HA := hide (And.intro (drop_at a1).2.2 (And.intro a2 a4))
        clear RD c74 a1 a2 a3 a4 HTO
        go_wp2_with fail
        refine (unhide TO).mono ?_
        rintro e w2 ⟨rfl, b1, b2⟩
        rw [ins_at] at b1
        have RD2 := hide (unhide HRD2 w2 (k1 + 1) b1 (unhide HA).1)
        have HB2 := hide ((unhide HA).2.2.trans b2)
        clear b1 b2 TO HA HRD2
        go_wp2_with fail
        refine (unhide RD2).mono ?_
        intro e w3 hR
        obtain rfl := hR.ret
        have HF := hide (hR.mid (unhide HB2))
        clear hR RD2 HB2
        generalize midO kk x Q = PQ at *
        generalize Q.ok = b at *
        go_wp2
        refine bodyPost_ret (results_tmp rfl _ _ _) rfl ?_
        exact unhide HF
end Go.Proofs.YtogklmljllocbabGreatDoor
