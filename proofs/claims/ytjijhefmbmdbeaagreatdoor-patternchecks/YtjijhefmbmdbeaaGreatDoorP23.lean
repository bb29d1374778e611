/-
  The reader takes an operation of a level.
  The reader: what is left is an end of what there was; a field.
  The reader reads a field.
-/
import Derived.Test.YtjijhefmbmdbeaaGreatDoorP22
namespace Go.Proofs.YtjijhefmbmdbeaaGreatDoor
open Go.RowKit Go.Shelf
attribute [local irreducible] opsV

theorem lvO_range {n : Nat} {k : Int} (h : k ∈ lvO n) : 4 ≤ k ∧ k ≤ 13 := by
  unfold lvO at h
  repeat' split at h
  all_goals simp at h
  all_goals omega
theorem lvO_len (n : Nat) : (lvO n).length ≤ 4 := by
  unfold lvO
  repeat' split
  all_goals simp
theorem rd_sign {lv tk pv : Value} {k d : Nat} {kd : Nat} (h : kd < 14) : (rdC lv tk k d pv)[1 + kd * 5]? = some (.string (txt (sgO (kd : Int)))) := by
  rw [rdC_op _ _ _ _ _ _ (by omega)]
  exact (opsV_row ⟨kd, h⟩).1
theorem opA_none {n j : Nat} {s : List UInt8} (hj : j = (lvO n).length) (h : ∀ x ∈ (lvO n).take j, s ≠ sgO x) : opA n s = none := by
  unfold opA
  rw [List.find?_eq_none]
  intro x hx
  rw [hj, List.take_length] at h
  simpa using h x hx
theorem opA_hit {n j : Nat} {s : List UInt8} (hj : j < (lvO n).length) (h : ∀ x ∈ (lvO n).take j, s ≠ sgO x) (he : s = sgO ((lvO n)[j])) : opA n s = some ((lvO n)[j]) := by
  unfold opA
  generalize lvO n = L at *
  induction L generalizing j with
  | nil => simp at hj
  | cons a r ih =>
    cases j with
    | zero => rw [List.find?_cons_of_pos (by simpa using he)]; rfl
    | succ j =>
      have ha := h a (by simp)
      rw [List.find?_cons_of_neg (by simpa using ha)]
      exact ih (by simpa using hj) (fun x hx => h x (by simp [hx])) (by simpa using he)
/-- What taking an operation leaves. -/
def TkO (gr : Nat) (lv tk : Value) (l : List Tk) (k d : Nat) (ps : List Pt) (fr : Nat) (W : World) (o : Option Int) (e : Ending) (w' : World) : Prop := match o with
  | some kk => e = .returned (.bool true) ∧ Rd gr lv tk l (k + 1) d (ps.take fr ++ opP kk :: ps.drop fr) w' ∧ Below gr W w'
  | none => e = .returned (.bool false) ∧ Rd gr lv tk l k d ps w' ∧ Below gr W w'
set_option maxHeartbeats 4000000 in
set_option maxRecDepth 100000 in
theorem takeOp_any {gr : Nat} {lv tk : Value} {l : List Tk} {k d : Nat} {ps : List Pt} {W : World} (h : Rd gr lv tk l k d ps W) {t : Tk} {r : List Tk} (ht : l.drop k = t :: r) (n : Nat) (hn : n < 6) (fr : Nat) (hf : fr ≤ ps.length) (hps : ps.length ≤ 1000000) :
    Calls Tryz.prog 188 #[.pointer (some ⟨gr, 0, none⟩), .int .i64 (n : Int), .int .i64 (fr : Int)] W (TkO gr lv tk l k d ps fr W (opA n (wdT t))) := by
  obtain ⟨pv, hb, _⟩ := h.box
  have c0 := hb.cell (rdC_0 lv tk k d pv)
  have HR := hide h
  have HT := hide ht
  have HLV := hide (fun W' (hb : Below gr W W') => h.env.lvs.below hb)
  obtain ⟨gl, hlv, hgl, hc⟩ := h.env.lvs
  obtain ⟨_, ov, c1, hov⟩ := hc n (by omega)
  obtain ⟨he, _⟩ | ⟨go, rfl, hgo, hco⟩ := hov
  · exfalso
    unfold lvO at he
    repeat' split at he
    all_goals simp at he
    omega
  have HCO := hide (fun W' (hb : Below gr W W') (i : Nat) (hi : i < (lvO n).length) => (hb.cell (p := ⟨go, i, none⟩) hgo).trans (hco i hi))
  have hlen := lvO_len n
  rw [hlv] at c0
  have HLT := hide hlv
  obtain ⟨L, hL⟩ : ∃ L, (lvO n).length = L := ⟨_, rfl⟩
  rw [hL] at c1 hlen
  have HL := hide hL
  clear h ht hb hc hco hlv hL HLV
  go_enter Tryz.func188, Tryz.ntmps188
  go_wp2
  go_loopw [18] (fun i wr => ∃ j : Nat, j ≤ L ∧ i = .int .i64 (j : Int) ∧ Hid (Rd gr lv tk l k d ps wr ∧ Below gr W wr ∧ ∀ x ∈ (lvO n).take j, wdT t ≠ sgO x)) (fun i _ => L - (intOf i).toNat)
  case atStart => exact ⟨0, Nat.zero_le _, rfl, hide ⟨unhide HR, Below.refl _ _, by simp⟩⟩
  case round =>
    obtain ⟨j, hj, rfl, HI⟩ := hrel
    by_cases hjL : j < L
    · have hjl : j < (lvO n).length := by rw [unhide HL]; exact hjL
      have cj := unhide HCO wr (unhide HI).2.1 j hjl
      have hrg := lvO_range (List.getElem_mem hjl)
      have HHIT := hide (opA_hit hjl (unhide HI).2.2)
      have HMISS : Hid (wdT t ≠ sgO ((lvO n)[j]) → ∀ x ∈ (lvO n).take (j + 1), wdT t ≠ sgO x) := hide (fun hne x hx => by
        rw [List.take_succ_eq_append_getElem hjl] at hx
        rcases List.mem_append.1 hx with hx | hx
        · exact (unhide HI).2.2 x hx
        · rw [List.mem_singleton.1 hx]; exact hne)
      generalize (lvO n)[j] = kk at *
      obtain ⟨q, rfl⟩ : ∃ q : Nat, kk = q := ⟨kk.toNat, by omega⟩
      have hq : q < 14 := by omega
      obtain ⟨pw, hbw, how⟩ := (unhide HI).1.box
      have cs := hbw.cell (rd_sign (lv := lv) (tk := tk) (k := k) (d := d) (pv := pw) hq)
      have SK := hide (skip_any (unhide HI).1 (unhide HT) (txt (sgO (q : Int))))
      rw [txt_list] at SK
      clear hbw how HCO
      generalize txt (sgO (q : Int)) = SG at *
      by_cases he : wdT t = sgO (q : Int)
      · rw [if_pos he, decide_eq_true he] at SK
        have HOP : Hid (opA n (wdT t) = some (q : Int)) := hide (unhide HHIT he)
        clear HHIT HMISS he
        go_wp2_with fail
        refine (unhide SK).mono ?_
        rintro e w1 ⟨rfl, hr1, hb1⟩
        obtain ⟨pv1, hx1, ho1⟩ := hr1.box
        have hlt1 := (Array.getElem?_eq_some_iff.1 hx1).1
        have c74 := hx1.cell (rdC_74 lv tk (k + 1) d pv1)
        have hal := Kp.alloc w1 (.cells #[.int .i64 (q : Int), .int .i64 0, .string { data := #[] }, .string { data := #[] }, .int .i64 0] 86)
        have IN := hide (insert_any (gr + 1) pv1 ps fr (opP (q : Int)) w1.heap.size 1 (w1.alloc (.cells #[.int .i64 (q : Int), .int .i64 0, .string { data := #[] }, .string { data := #[] }, .int .i64 0] 86)) (row_kp ho1 hal (by simp)) hf (by omega) (CBox.new w1 _ _) (fun e => by have := (ho1.lt _ e).2; omega) (by simp; omega))
        have HX := hide (And.intro (hx1.kp hal (by simp)) (And.intro (hal.below (B := gr) (by omega) (by simp)) (And.intro hr1 (fun g hg => (ho1.lt g hg).1))))
        have HW1 := hide ((unhide HI).2.1.trans hb1)
        clear hr1 hb1 hx1 ho1 hal SK cs cj
        go_wp2_with fail
        refine (unhide IN).mono ?_
        rintro e w2 ⟨v', rfl, ho2, k2⟩
        obtain ⟨hx2, hbl2, hr1, hlow⟩ := unhide HX
        have hlow2 : ∀ x ∈ pv1.ownBlock.toList, gr + 1 ≤ x := fun x hx => hlow x (by simpa using hx)
        have hx3 := hx2.kp k2 (fun hx => by have := hlow2 _ hx; omega)
        have hbl3 := hbl2.trans (k2.below (by simp; omega) (fun x hx => by have := hlow2 x hx; omega))
        obtain ⟨g2, cap2, rfl, _, _⟩ := ho2.form (by omega)
        have c74' := hx3.cell (rdC_74 lv tk (k + 1) d pv1)
        have f74 := hx3.froz
        have HF := hide (And.intro hr1 (And.intro hx3 (And.intro hbl3 ho2)))
        clear hx2 hbl2 hlow hlow2 hx3 hbl3 ho2 k2 hr1 HX IN
        go_wp2
        refine bodyPost_ret (results_tmp rfl _ _ _) rfl ?_
        obtain ⟨hr1, hx3, hbl3, ho2⟩ := unhide HF
        unfold TkO
        rw [unhide HOP]
        have hll : (ps.take fr ++ opP (q : Int) :: ps.drop fr).length = ps.length + 1 := by simp; omega
        exact ⟨rfl, Rd.parts hr1 hx3 hbl3 (by rw [hll]; exact ho2), ((unhide HW1).trans hbl3).setCell (p := ⟨gr, 74, none⟩) (Nat.le_refl _) _⟩
      · rw [if_neg he, decide_eq_false he] at SK
        have HM2 := hide (unhide HMISS he)
        clear HHIT HMISS he
        go_wp2_with fail
        refine (unhide SK).mono ?_
        rintro e w1 ⟨rfl, hr1, hb1⟩
        have HI2 := hide (And.intro hr1 (And.intro ((unhide HI).2.1.trans hb1) (unhide HM2)))
        clear hr1 hb1 SK HI cs cj
        go_wp2
        go_roundw
        case rel => exact ⟨j + 1, by omega, by go_num, HI2⟩
        case measure => simp [intOf]; omega
    · obtain rfl : j = L := by omega
      have HN : Hid (opA n (wdT t) = none) := hide (opA_none (unhide HL).symm (unhide HI).2.2)
      clear HCO
      go_wp2
      refine bodyPost_ret (results_tmp rfl _ _ _) rfl ?_
      unfold TkO
      rw [unhide HN]
      exact ⟨rfl, (unhide HI).1, (unhide HI).2.1⟩
end Go.Proofs.YtjijhefmbmdbeaaGreatDoor
namespace Go.Proofs.YtjijhefmbmdbeaaGreatDoor
open Go.RowKit Go.Shelf
attribute [local irreducible] opsV

def PR.rest : PR → List Tk
  | .bad r => r
  | .good _ r => r
theorem suf_cons {a r : List Tk} (t : Tk) (h : a <:+ r) : a <:+ t :: r := h.trans (List.suffix_cons t r)
theorem fdE_suf (st : ByteArray) (ts : List Tk) : (fdE st ts).rest <:+ ts := by
  cases ts with
  | nil => exact List.suffix_refl _
  | cons c r =>
    rw [fdE]
    split
    · exact List.suffix_cons c r
    · exact List.suffix_refl _
theorem fdR_suf (t : Tk) (r : List Tk) : (fdR t r).rest <:+ t :: r := by
  unfold fdR
  split
  · cases r with
    | nil => exact suf_cons t (List.suffix_refl _)
    | cons c q =>
      dsimp only
      split
      · exact suf_cons t (suf_cons c (fdE_suf _ _))
      · exact suf_cons t (List.suffix_refl _)
  · exact fdE_suf _ _
theorem shut_suf (x : List Pt) (q : List Tk) : (shut x q).rest <:+ q := by
  cases q with
  | nil => exact List.suffix_refl _
  | cons c q =>
    rw [shut]
    split
    · exact List.suffix_cons c q
    · exact List.suffix_refl _
theorem pRd_suf (f : Nat) : ∀ (m d : Nat) (acc : List Pt) (ts : List Tk), (pRd f m d acc ts).rest <:+ ts := by
  induction f with
  | zero => intro m d acc ts; rw [pRd]; exact List.suffix_refl _
  | succ f ih =>
    intro m d acc ts
    cases ts with
    | nil => rw [pRd]; exact List.suffix_refl _
    | cons t r =>
      rw [pRd]
      by_cases h6 : m = 6
      · rw [if_pos h6]
        split
        · exact List.suffix_cons t r
        · split
          · exact List.suffix_cons t r
          · split
            · exact fdR_suf t r
            · split
              · split
                · have h1 := ih 0 (d + 1) [] r
                  cases hE : pRd f 0 (d + 1) [] r with
                  | bad q => rw [hE] at h1; exact suf_cons t h1
                  | good x q => rw [hE] at h1; exact suf_cons t ((shut_suf x q).trans h1)
                · exact List.suffix_cons t r
              · exact List.suffix_refl _
      · rw [if_neg h6]
        split
        · split
          · split
            · have h1 := ih 2 (d + 1) [] r
              cases hE : pRd f 2 (d + 1) [] r with
              | bad q => rw [hE] at h1; exact suf_cons t h1
              | good x q => rw [hE] at h1; exact suf_cons t h1
            · exact List.suffix_cons t r
          · exact ih 3 d [] (t :: r)
        · split
          · have h1 := ih 4 d [] (t :: r)
            cases hE : pRd f 4 d [] (t :: r) with
            | bad q => rw [hE] at h1; exact h1
            | good x q =>
              rw [hE] at h1
              cases q with
              | nil => exact h1
              | cons c q' =>
                dsimp only
                split
                · exact h1
                · have h2 := ih 4 d [] q'
                  cases hE2 : pRd f 4 d [] q' with
                  | bad s => rw [hE2] at h2; exact h2.trans ((List.suffix_cons c q').trans h1)
                  | good y s => rw [hE2] at h2; exact h2.trans ((List.suffix_cons c q').trans h1)
          · split
            · have h1 := ih (m + 1) d [] (t :: r)
              cases hE : pRd f (m + 1) d [] (t :: r) with
              | bad q => rw [hE] at h1; exact h1
              | good x q => rw [hE] at h1; exact (ih (m + 10) d x q).trans h1
            · split
              · exact List.suffix_refl _
              · have h1 := ih (m - 10 + 1) d [] r
                cases hE : pRd f (m - 10 + 1) d [] r with
                | bad q => rw [hE] at h1; exact suf_cons t h1
                | good y q => rw [hE] at h1; exact (ih m d _ q).trans (suf_cons t h1)
/-- What reading leaves. -/
def RdR (gr : Nat) (lv tk : Value) (l : List Tk) (d : Nat) (ps : List Pt) (W : World) (o : PR) (e : Ending) (w' : World) : Prop := match o with
  | .good x q => e = .returned (.bool true) ∧ (∃ k, l.drop k = q ∧ k ≤ l.length ∧ Rd gr lv tk l k d (ps ++ x) w') ∧ Below gr W w'
  | .bad q => e = .returned (.bool false) ∧ (∃ k ps', l.drop k = q ∧ k ≤ l.length ∧ Rd gr lv tk l k d ps' w') ∧ Below gr W w'
end Go.Proofs.YtjijhefmbmdbeaaGreatDoor
namespace Go.Proofs.YtjijhefmbmdbeaaGreatDoor
open Go.RowKit Go.Shelf
attribute [local irreducible] opsV

theorem gr_le {gr : Nat} {lv tk : Value} {l : List Tk} {k d : Nat} {ps : List Pt} {W : World} (h : Rd gr lv tk l k d ps W) : gr ≤ W.heap.size := by
  have := h.cells
  omega
set_option maxHeartbeats 4000000 in
set_option maxRecDepth 100000 in
/-- A field's word, with a stage or none. -/
theorem field_no {gr : Nat} {lv tk : Value} {l : List Tk} {k d : Nat} {ps : List Pt} {W : World} (h : Rd gr lv tk l k d ps W) {t : Tk} {r : List Tk} (ht : l.drop k = t :: r) (hps : ps.length ≤ 1000000) (hfr : freeW (wdT t) = false) :
    Calls Tryz.prog 191 #[.pointer (some ⟨gr, 0, none⟩)] W (RdR gr lv tk l d ps W (fdE (txt []) (t :: r))) := by
  obtain ⟨hkl, _, hd1⟩ := drop_at ht
  have hk : k ≤ 100000 := by have := h.env.len; omega
  have WD := hide (word_any h ht)
  have HR := hide h
  have HT := hide ht
  have FR := hide (fun w (hT : TbE w) => isFree_any (wdS t) w hT)
  have FO := hide (fun w (hT : TbE w) => fieldOf_any (wdS t) w hT)
  rw [wdS_list, hfr] at FR
  rw [wdS_list] at FO
  have hg := gr_le h
  have hpr : fdE (txt []) (t :: r) = if 0 ≤ fldOf (wdT t) then .good [⟨3, 0, txt [], txt [], fldOf (wdT t)⟩] r else .bad (t :: r) := rfl
  obtain ⟨F, hF⟩ : ∃ F, fldOf (wdT t) = F := ⟨_, rfl⟩
  rw [hF] at FO hpr
  have HPR := hide hpr
  clear hpr
  generalize fdE (txt []) (t :: r) = PRl at *
  clear h ht hfr hF
  go_enter Tryz.func191, Tryz.ntmps191
  go_wp2_with fail
  refine (unhide WD).mono ?_
  rintro e w1 ⟨rfl, hb1⟩
  have HR1 := hide ((unhide HR).below hb1)
  have HB1 := hide (hb1.mono hg)
  clear hb1 WD HR
  go_wp2_with fail
  refine (unhide FR w1 (unhide HR1).env.tab).mono ?_
  rintro e w1' ⟨rfl, rfl⟩
  have WD1 := hide (word_any (unhide HR1) (unhide HT))
  clear FR
  go_wp2_with fail
  refine (unhide WD1).mono ?_
  rintro e w2 ⟨rfl, hb2⟩
  have HR2 := hide ((unhide HR1).below hb2)
  have HB2 := hide ((unhide HB1).trans (hb2.mono (gr_le (unhide HR1))))
  clear hb2 WD1 HR1 HB1
  go_wp2_with fail
  refine (unhide FO w2 (unhide HR2).env.tab).mono ?_
  rintro e w2' ⟨rfl, rfl⟩
  clear FO
  by_cases h0 : 0 ≤ F
  · have h0' : ((0 : Int) ≤ F) = True := by simp [h0]
    have TA := hide (take_any (unhide HR2) ⟨3, 0, txt [], txt [], F⟩ hk hps)
    unfold Pt.v at TA
    go_wp2_with fail
    refine (unhide TA).mono ?_
    rintro e w3 ⟨rfl, hr3, hb3⟩
    have HE := hide (And.intro hr3 ((unhide HB2).trans hb3))
    clear hr3 hb3 TA
    go_wp2
    refine bodyPost_ret (results_tmp rfl _ _ _) rfl ?_
    rw [unhide HPR, if_pos h0]
    exact ⟨rfl, ⟨k + 1, hd1, by omega, (unhide HE).1⟩, (unhide HE).2⟩
  · have h0' : ((0 : Int) ≤ F) = False := by simp; omega
    go_wp2
    refine bodyPost_ret (results_tmp rfl _ _ _) rfl ?_
    rw [unhide HPR, if_neg (by omega)]
    exact ⟨rfl, ⟨k, ps, unhide HT, by omega, unhide HR2⟩, unhide HB2⟩
set_option maxHeartbeats 4000000 in
set_option maxRecDepth 100000 in
theorem field_st {gr : Nat} {lv tk : Value} {l : List Tk} {k d : Nat} {ps : List Pt} {W : World} (h : Rd gr lv tk l k d ps W) {t c : Tk} {q : List Tk} (ht : l.drop k = t :: c :: q) (hk1 : t.kd = 1) (hq : wdT c = [46] → q ≠ []) (hps : ps.length ≤ 1000000) (hfr : freeW (wdT t) = true) :
    Calls Tryz.prog 191 #[.pointer (some ⟨gr, 0, none⟩)] W (RdR gr lv tk l d ps W (if wdT c = [46] then fdE t.s q else .bad (c :: q))) := by
  obtain ⟨hkl, hat, hd1⟩ := drop_at ht
  obtain ⟨hkl1, _, hd2⟩ := drop_at hd1
  have hk : k ≤ 90000000 := by have := h.env.len; omega
  have hk2 : k + 1 + 1 ≤ 100000 := by have := h.env.len; omega
  have WD := hide (word_any h ht)
  have HR := hide h
  have HT1 := hide hd1
  have HT2 := hide hd2
  have hws : wdS t = t.s := by unfold wdS; rw [if_pos (Or.inl hk1)]
  have hsz : t.s.size ≤ 281474976710656 := by have := h.env.ok t (by rw [← hat]; exact List.getElem_mem hkl); omega
  have FR := hide (fun w (hT : TbE w) => isFree_any (wdS t) w hT)
  have CL := hide (fun w => clone_any t.s w hsz)
  rw [wdS_list, hfr, hws] at FR
  rw [hws] at WD
  have hg := gr_le h
  have SK := hide (fun W' (hr : Rd gr lv tk l (k + 1) d ps W') => skip_any hr hd1 ⟨#[46]⟩)
  rw [show (⟨#[46]⟩ : ByteArray).data.toList = [46] from rfl] at SK
  clear h ht hfr hat hws hsz hd1 hd2
  obtain ⟨PRl, hpr⟩ : ∃ P, (if wdT c = [46] then fdE t.s q else .bad (c :: q)) = P := ⟨_, rfl⟩
  rw [hpr]
  have HPR := hide hpr
  clear hpr
  generalize t.s = ST at *
  go_enter Tryz.func191, Tryz.ntmps191
  go_wp2_with fail
  refine (unhide WD).mono ?_
  rintro e w1 ⟨rfl, hb1⟩
  have HR1 := hide ((unhide HR).below hb1)
  have HB1 := hide (hb1.mono hg)
  clear hb1 WD HR
  go_wp2_with fail
  refine (unhide FR w1 (unhide HR1).env.tab).mono ?_
  rintro e w1' ⟨rfl, rfl⟩
  clear FR
  go_wp2_with fail
  refine (unhide CL w1').mono ?_
  rintro e w2 ⟨rfl, hb2⟩
  have HR2 := hide ((unhide HR1).below hb2)
  have HB2 := hide ((unhide HB1).trans (hb2.mono (gr_le (unhide HR1))))
  obtain ⟨c72, _, f72, _⟩ := (unhide HR2).cells
  have HR3 := hide (unhide HR2).next
  have HB3 := hide ((unhide HB2).setCell (p := ⟨gr, 72, none⟩) (Nat.le_refl _) (.int .i64 ((k : Int) + 1)))
  clear hb2 HR1 HB1 CL HR2 HB2
  go_wp2_with fail
  refine (unhide SK _ (unhide HR3)).mono ?_
  rintro e w3 ⟨rfl, hr3, hb3⟩
  have HB4 := hide ((unhide HB3).trans hb3)
  have HR4 := hide hr3
  clear hr3 hb3 c72 f72 SK HB3 HR3
  by_cases hc : wdT c = [46]
  · rw [if_pos hc] at HR4 HPR
    rw [decide_eq_true hc]
    obtain ⟨x, s, rfl⟩ : ∃ x s, q = x :: s := by
      cases q with
      | nil => exact absurd rfl (hq hc)
      | cons x s => exact ⟨x, s, rfl⟩
    obtain ⟨hkl2, _, hd3⟩ := drop_at (unhide HT2)
    have WD2 := hide (word_any (unhide HR4) (unhide HT2))
    have FO := hide (fun w (hT : TbE w) => fieldOf_any (wdS x) w hT)
    rw [wdS_list] at FO
    have hpr : fdE ST (x :: s) = if 0 ≤ fldOf (wdT x) then .good [⟨3, 0, txt [], ST, fldOf (wdT x)⟩] s else .bad (x :: s) := rfl
    rw [hpr] at HPR
    obtain ⟨F, hF⟩ : ∃ F, fldOf (wdT x) = F := ⟨_, rfl⟩
    rw [hF] at FO HPR
    clear hpr hF hc hq
    go_wp2_with fail
    refine (unhide WD2).mono ?_
    rintro e w4 ⟨rfl, hb4⟩
    have HR5 := hide ((unhide HR4).below hb4)
    have HB5 := hide ((unhide HB4).trans (hb4.mono (gr_le (unhide HR4))))
    clear hb4 WD2 HR4 HB4
    go_wp2_with fail
    refine (unhide FO w4 (unhide HR5).env.tab).mono ?_
    rintro e w4' ⟨rfl, rfl⟩
    clear FO
    by_cases h0 : 0 ≤ F
    · have h0' : ((0 : Int) ≤ F) = True := by simp [h0]
      have TA := hide (take_any (unhide HR5) ⟨3, 0, txt [], ST, F⟩ hk2 hps)
      unfold Pt.v at TA
      go_wp2_with fail
      refine (unhide TA).mono ?_
      rintro e w5 ⟨rfl, hr6, hb6⟩
      have HE := hide (And.intro hr6 ((unhide HB5).trans hb6))
      clear hr6 hb6 TA
      go_wp2
      refine bodyPost_ret (results_tmp rfl _ _ _) rfl ?_
      rw [← unhide HPR, if_pos h0]
      exact ⟨rfl, ⟨k + 1 + 1 + 1, hd3, by omega, (unhide HE).1⟩, (unhide HE).2⟩
    · have h0' : ((0 : Int) ≤ F) = False := by simp; omega
      go_wp2
      refine bodyPost_ret (results_tmp rfl _ _ _) rfl ?_
      rw [← unhide HPR, if_neg (by omega)]
      exact ⟨rfl, ⟨k + 1 + 1, ps, unhide HT2, by omega, unhide HR5⟩, unhide HB5⟩
  · rw [if_neg hc] at HR4 HPR
    rw [decide_eq_false hc]
    clear hc
    go_wp2
    refine bodyPost_ret (results_tmp rfl _ _ _) rfl ?_
    rw [← unhide HPR]
    exact ⟨rfl, ⟨k + 1, ps, unhide HT1, by omega, unhide HR4⟩, unhide HB4⟩
/-- What a word is read as. -/
theorem field_any {gr : Nat} {lv tk : Value} {l : List Tk} {k d : Nat} {ps : List Pt} {W : World} (h : Rd gr lv tk l k d ps W) {t : Tk} {r : List Tk} (ht : l.drop k = t :: r) (hk1 : t.kd = 1) (hE : Endd (t :: r)) (hps : ps.length ≤ 1000000) :
    Calls Tryz.prog 191 #[.pointer (some ⟨gr, 0, none⟩)] W (RdR gr lv tk l d ps W (fdR t r)) := by
  unfold fdR
  cases hf : freeW (wdT t) with
  | false => exact field_no h ht hps hf
  | true =>
    have hr := hE.tail (by omega)
    cases r with
    | nil => exact absurd rfl hr.ne
    | cons c q => exact field_st h ht hk1 (fun hc => (hr.tail (wdT_kd (by rw [hc]; simp))).ne) hps hf
end Go.Proofs.YtjijhefmbmdbeaaGreatDoor
