/-
  The reader: what lies one deeper; a denial; a pair.
  The reader reads a pair.
  The reader reads a leaf.
-/
import Derived.Test.YtjijhefmbmdbeaaGreatDoorP23
namespace Go.Proofs.YtjijhefmbmdbeaaGreatDoor
open Go.RowKit Go.Shelf
attribute [local irreducible] opsV

/-- Reading with so much fuel tells what the plain reader tells. -/
def RdOK (f : Nat) : Prop := ∀ (gr : Nat) (lv tk : Value) (l : List Tk) (k d : Nat) (ps : List Pt) (W : World) (m : Nat), Rd gr lv tk l k d ps W → m ≤ 6 → Endd (l.drop k) → d ≤ 200 → ps.length + (l.drop k).length ≤ 500000 → mRd m (l.drop k) ≤ f →
  Calls Tryz.prog 158 #[.pointer (some ⟨gr, 0, none⟩), .int .i64 (m : Int)] W (RdR gr lv tk l d ps W (pRd f m d [] (l.drop k)))
theorem Rd.deep {gr : Nat} {lv tk : Value} {l : List Tk} {k d : Nat} {ps : List Pt} {W : World} (h : Rd gr lv tk l k d ps W) (d' : Nat) : Rd gr lv tk l k d' ps (W.setCell ⟨gr, 73, none⟩ (.int .i64 (d' : Int))) := by
  obtain ⟨pv, h1, h2⟩ := h.box
  have hlt := (Array.getElem?_eq_some_iff.1 h1).1
  have c := h1.set 73 (.int .i64 (d' : Int))
  rw [rdC_d] at c
  exact ⟨h.env.below ((Kp.set W gr 73 _).below (by omega) (by simp)), pv, c, row_kp h2 (Kp.set _ _ _ _) (fun g hg => by have := (h2.lt g hg).1; simp; omega)⟩
/-- What reading leaves, said of the answer as a truth. -/
def PR.ok : PR → Bool
  | .bad _ => false
  | .good _ _ => true
def PR.st (o : PR) (ps : List Pt) (ps' : List Pt) : Prop := match o with
  | .good x _ => ps' = ps ++ x
  | .bad _ => True
theorem RdR.to {gr : Nat} {lv tk : Value} {l : List Tk} {d : Nat} {ps : List Pt} {W : World} {o : PR} {e : Ending} {w' : World} (h : RdR gr lv tk l d ps W o e w') : e = .returned (.bool o.ok) ∧ ∃ k ps', l.drop k = o.rest ∧ k ≤ l.length ∧ Rd gr lv tk l k d ps' w' ∧ o.st ps ps' ∧ Below gr W w' := by
  cases o with
  | bad q => obtain ⟨rfl, ⟨k, ps', h1, h2, h3⟩, h4⟩ := h; exact ⟨rfl, k, ps', h1, h2, h3, trivial, h4⟩
  | good x q => obtain ⟨rfl, ⟨k, h1, h2, h3⟩, h4⟩ := h; exact ⟨rfl, k, _, h1, h2, h3, rfl, h4⟩
theorem RdR.of {gr : Nat} {lv tk : Value} {l : List Tk} {k d : Nat} {ps ps' : List Pt} {W : World} {o : PR} {w' : World} (h1 : l.drop k = o.rest) (h2 : k ≤ l.length) (h3 : Rd gr lv tk l k d ps' w') (hs : o.st ps ps') (h4 : Below gr W w') : RdR gr lv tk l d ps W o (.returned (.bool o.ok)) w' := by
  cases o with
  | bad q => exact ⟨rfl, ⟨k, ps', h1, h2, h3⟩, h4⟩
  | good x q => obtain rfl := hs; exact ⟨rfl, ⟨k, h1, h2, h3⟩, h4⟩
def inP (f n d : Nat) (ts : List Tk) : PR := if d + 1 ≤ 200 then pRd f n (d + 1) [] ts else .bad ts
set_option maxHeartbeats 4000000 in
set_option maxRecDepth 100000 in
theorem inner_any {f : Nat} (IH : RdOK f) {gr : Nat} {lv tk : Value} {l : List Tk} {k d : Nat} {ps : List Pt} {W : World} (h : Rd gr lv tk l k d ps W) (n : Nat) (hn : n ≤ 6) (hE : Endd (l.drop k)) (hd : d ≤ 200) (hps : ps.length + (l.drop k).length ≤ 500000) (hm : mRd n (l.drop k) ≤ f) (hkl : k ≤ l.length) :
    Calls Tryz.prog 189 #[.pointer (some ⟨gr, 0, none⟩), .int .i64 (n : Int)] W (RdR gr lv tk l d ps W (inP f n d (l.drop k))) := by
  obtain ⟨_, c73, fz, hgl⟩ := h.cells
  have e1 : ((d : Int) + 1) = ((d + 1 : Nat) : Int) := by omega
  have HD := hide (h.deep (d + 1))
  rw [← e1] at HD
  have HB := hide ((Below.refl gr W).setCell (p := ⟨gr, 73, none⟩) (Nat.le_refl _) (.int .i64 ((d : Int) + 1)))
  have HRD : Hid (∀ W', Rd gr lv tk l k (d + 1) ps W' → d + 1 ≤ 200 → Calls Tryz.prog 158 #[.pointer (some ⟨gr, 0, none⟩), .int .i64 (n : Int)] W' (RdR gr lv tk l (d + 1) ps W' (pRd f n (d + 1) [] (l.drop k)))) := hide (fun W' hr hd' => IH gr lv tk l k (d + 1) ps W' n hr hn hE hd' hps hm)
  obtain ⟨P, hP⟩ : ∃ P, inP f n d (l.drop k) = P := ⟨_, rfl⟩
  rw [hP]
  have HP := hide hP
  clear h hE hm hP e1 IH
  by_cases hdd : d + 1 ≤ 200
  · have hc1 : ((d : Int) + 1 ≤ 200) = True := by simp; omega
    have HP2 : Hid (pRd f n (d + 1) [] (l.drop k) = P) := hide (by rw [← unhide HP]; unfold inP; rw [if_pos hdd])
    have RD := hide (unhide HRD _ (unhide HD) hdd)
    rw [unhide HP2] at RD
    have c73' := (unhide HD).cells.2.1
    have e2 : ((d + 1 : Nat) : Int) = (d : Int) + 1 := by omega
    rw [e2] at c73'
    have hw : IntKind.i64.wrap ((d : Int) + 1 - 1) = (d : Int) := by rw [IntKind.wrap_i64]; omega
    clear HRD HP HP2
    go_enter Tryz.func189, Tryz.ntmps189
    go_wp2_with fail
    refine (unhide RD).mono ?_
    intro e w1 hR
    obtain ⟨rfl, k1, ps1, a1, a2, a3, a4, a5⟩ := hR.to
    obtain ⟨_, d73, fz1, _⟩ := a3.cells
    rw [e2] at d73
    have HF := hide (And.intro a1 (And.intro a2 (And.intro (a3.deep d) (And.intro a4 (((unhide HB).trans a5).setCell (p := ⟨gr, 73, none⟩) (Nat.le_refl _) (.int .i64 (d : Int)))))))
    clear hR a1 a2 a3 a4 a5 RD HD HB c73 c73' fz e2
    generalize hok : P.ok = b at *
    have HOK := hide hok
    clear hok
    go_wp2
    refine bodyPost_ret (results_tmp rfl _ _ _) rfl ?_
    obtain ⟨q1, q2, q3, q4, q5⟩ := unhide HF
    have := RdR.of q1 q2 q3 q4 q5
    rw [unhide HOK] at this
    exact this
  · have hc1 : ((d : Int) + 1 ≤ 200) = False := by simp; omega
    obtain rfl : P = .bad (l.drop k) := by rw [← unhide HP]; unfold inP; rw [if_neg hdd]
    have c73' := (unhide HD).cells.2.1
    have fz' := (unhide HD).cells.2.2.1
    have e2 : ((d + 1 : Nat) : Int) = (d : Int) + 1 := by omega
    rw [e2] at c73'
    have HF := hide (And.intro ((unhide HD).deep d) ((unhide HB).setCell (p := ⟨gr, 73, none⟩) (Nat.le_refl _) (.int .i64 (d : Int))))
    have hw : IntKind.i64.wrap ((d : Int) + 1 - 1) = (d : Int) := by rw [IntKind.wrap_i64]; omega
    clear HRD HP e2
    go_enter Tryz.func189, Tryz.ntmps189
    go_wp2
    refine bodyPost_ret (results_tmp rfl _ _ _) rfl ?_
    exact ⟨rfl, ⟨k, ps, rfl, hkl, (unhide HF).1⟩, (unhide HF).2⟩
def preO (kk : Int) : PR → PR
  | .bad q => .bad q
  | .good x q => .good (opP kk :: x) q
theorem pRd_2n {f d : Nat} {t : Tk} {r : List Tk} (h : opA 2 (wdT t) = none) : pRd (f + 1) 2 d [] (t :: r) = pRd f 3 d [] (t :: r) := by rw [pRd, if_neg (by omega), if_pos rfl, h]
theorem pRd_2s {f d : Nat} {t : Tk} {r : List Tk} {kk : Int} (h : opA 2 (wdT t) = some kk) : pRd (f + 1) 2 d [] (t :: r) = preO kk (inP f 2 d r) := by
  rw [pRd, if_neg (by omega), if_pos rfl, h]
  unfold inP
  dsimp only
  split
  · cases pRd f 2 (d + 1) [] r <;> rfl
  · rfl
theorem RdR.pre {gr : Nat} {lv tk : Value} {l : List Tk} {d : Nat} {ps : List Pt} {W W1 : World} {o : PR} {kk : Int} {e : Ending} {w' : World} (h : RdR gr lv tk l d (ps ++ [opP kk]) W1 o e w') (hb : Below gr W W1) : RdR gr lv tk l d ps W (preO kk o) e w' := by
  cases o with
  | bad q => exact ⟨h.1, h.2.1, hb.trans h.2.2⟩
  | good x q =>
    obtain ⟨k, a1, a2, a3⟩ := h.2.1
    exact ⟨h.1, ⟨k, a1, a2, by rw [List.append_assoc] at a3; exact a3⟩, hb.trans h.2.2⟩
theorem RdR.ret {gr : Nat} {lv tk : Value} {l : List Tk} {d : Nat} {ps : List Pt} {W : World} {o : PR} {e : Ending} {w' : World} (h : RdR gr lv tk l d ps W o e w') : e = .returned (.bool o.ok) := by cases o <;> exact h.1
theorem Rd.len {gr : Nat} {lv tk : Value} {l : List Tk} {k d : Nat} {ps : List Pt} {W : World} (h : Rd gr lv tk l k d ps W) : ∃ (ad : Option Addr) (cap : Nat), W.cell? ⟨gr, 74, none⟩ = some (.slice ad ps.length cap) := by
  obtain ⟨pv, h1, h2⟩ := h.box
  obtain ⟨_, ⟨rfl, h0⟩ | ⟨g, cap, cur, rfl, _⟩⟩ := h2
  · exact ⟨none, 0, by rw [h0]; exact h1.cell (rdC_74 lv tk k d _)⟩
  · exact ⟨_, cap, h1.cell (rdC_74 lv tk k d _)⟩
set_option maxHeartbeats 4000000 in
set_option maxRecDepth 100000 in
theorem denial_any {f : Nat} (IH : RdOK f) {gr : Nat} {lv tk : Value} {l : List Tk} {k d : Nat} {ps : List Pt} {W : World} (h : Rd gr lv tk l k d ps W) {t : Tk} {r : List Tk} (ht : l.drop k = t :: r) (hE : Endd (t :: r)) (hd : d ≤ 200) (hps : ps.length + (t :: r).length ≤ 500000) (hm : mRd 2 (t :: r) ≤ f + 1) :
    Calls Tryz.prog 176 #[.pointer (some ⟨gr, 0, none⟩), .int .i64 2] W (RdR gr lv tk l d ps W (pRd (f + 1) 2 d [] (t :: r))) := by
  obtain ⟨hkl, _, hd1⟩ := drop_at ht
  obtain ⟨ad, cap, c74⟩ := h.len
  have hlr : (t :: r).length = r.length + 1 := rfl
  have hmm : 8 * (r.length + 1) + 7 - 2 ≤ f + 1 := by rw [mRd_le (by omega)] at hm; exact hm
  have TO : Hid (Calls Tryz.prog 188 #[.pointer (some ⟨gr, 0, none⟩), .int .i64 2, .int .i64 (ps.length : Int)] W (TkO gr lv tk l k d ps ps.length W (opA 2 (wdT t)))) := hide (takeOp_any h ht 2 (by omega) ps.length (Nat.le_refl _) (by omega))
  have HIH := hide IH
  have HT := hide ht
  have HE := hide hE
  cases ho : opA 2 (wdT t) with
  | none =>
    rw [ho] at TO
    rw [pRd_2n ho]
    obtain ⟨P, hP⟩ : ∃ P, pRd f 3 d [] (t :: r) = P := ⟨_, rfl⟩
    have HPR := hide hP
    rw [hP]
    clear hP hE ht IH h ho hm
    go_enter Tryz.func176, Tryz.ntmps176
    go_wp2_with fail
    refine (unhide TO).mono ?_
    rintro e w1 ⟨rfl, hr1, hb1⟩
    have RD : Hid (Calls Tryz.prog 158 #[.pointer (some ⟨gr, 0, none⟩), .int .i64 3] w1 (RdR gr lv tk l d ps w1 (pRd f 3 d [] (l.drop k)))) := hide (unhide HIH gr lv tk l k d ps w1 3 hr1 (by omega) (by rw [unhide HT]; exact unhide HE) hd (by rw [unhide HT]; exact hps) (by rw [unhide HT, mRd_le (by omega), hlr]; omega))
    rw [unhide HT, unhide HPR] at RD
    have HB1 := hide hb1
    clear hr1 hb1 TO HIH c74
    go_wp2_with fail
    refine (unhide RD).mono ?_
    intro e w2 hR
    obtain ⟨rfl, k1, ps1, a1, a2, a3, a4, a5⟩ := hR.to
    have HF := hide (And.intro a1 (And.intro a2 (And.intro a3 (And.intro a4 ((unhide HB1).trans a5)))))
    clear hR a1 a2 a3 a4 a5 RD HB1
    generalize hok : P.ok = b at *
    have HOK := hide hok
    clear hok
    go_wp2
    refine bodyPost_ret (results_tmp rfl _ _ _) rfl ?_
    obtain ⟨q1, q2, q3, q4, q5⟩ := unhide HF
    have := RdR.of q1 q2 q3 q4 q5
    rw [unhide HOK] at this
    exact this
  | some kk =>
    rw [ho] at TO
    rw [pRd_2s ho]
    have hEr := hE.tail (opA_kd ho)
    obtain ⟨Q, hQ⟩ : ∃ Q, inP f 2 d r = Q := ⟨_, rfl⟩
    rw [hQ]
    have IN0 := fun w1 (hr1 : Rd gr lv tk l (k + 1) d (ps ++ [opP kk]) w1) => inner_any IH hr1 2 (by omega) (by rw [hd1]; exact hEr) hd (by rw [hd1, List.length_append]; simp at hps ⊢; omega) (by rw [hd1, mRd_le (by omega)]; omega) (by omega)
    rw [hd1, hQ] at IN0
    have HIN := hide IN0
    clear hE ht IH h ho hm hEr IN0 hQ HIH HE HT
    go_enter Tryz.func176, Tryz.ntmps176
    go_wp2_with fail
    refine (unhide TO).mono ?_
    rintro e w1 ⟨rfl, hr1, hb1⟩
    rw [List.take_length, List.drop_length] at hr1
    have RD : Hid (Calls Tryz.prog 189 #[.pointer (some ⟨gr, 0, none⟩), .int .i64 2] w1 (RdR gr lv tk l d (ps ++ [opP kk]) w1 Q)) := hide (unhide HIN w1 hr1)
    have HB1 := hide hb1
    clear hr1 hb1 TO HIN c74
    go_wp2_with fail
    refine (unhide RD).mono ?_
    intro e w2 hR
    obtain rfl := hR.ret
    have HF := hide (hR.pre (unhide HB1))
    clear hR RD HB1
    generalize preO kk Q = PQ at *
    generalize Q.ok = b at *
    go_wp2
    refine bodyPost_ret (results_tmp rfl _ _ _) rfl ?_
    exact unhide HF
end Go.Proofs.YtjijhefmbmdbeaaGreatDoor
namespace Go.Proofs.YtjijhefmbmdbeaaGreatDoor
open Go.RowKit Go.Shelf
attribute [local irreducible] opsV

def midO (kk : Int) (x : List Pt) : PR → PR
  | .bad s => .bad s
  | .good y s => .good (opP kk :: (x ++ y)) s
theorem pRd_3b {f d : Nat} {t : Tk} {r q : List Tk} (h : pRd f 4 d [] (t :: r) = .bad q) : pRd (f + 1) 3 d [] (t :: r) = .bad q := by rw [pRd, if_neg (by omega), if_neg (by omega), if_pos rfl, h]
theorem pRd_3n {f d : Nat} {t c : Tk} {r q : List Tk} {x : List Pt} (h : pRd f 4 d [] (t :: r) = .good x (c :: q)) (ho : opA 3 (wdT c) = none) : pRd (f + 1) 3 d [] (t :: r) = .good x (c :: q) := by
  rw [pRd, if_neg (by omega), if_neg (by omega), if_pos rfl, h]
  dsimp only
  rw [ho]
theorem pRd_3s {f d : Nat} {t c : Tk} {r q : List Tk} {x : List Pt} {kk : Int} (h : pRd f 4 d [] (t :: r) = .good x (c :: q)) (ho : opA 3 (wdT c) = some kk) : pRd (f + 1) 3 d [] (t :: r) = midO kk x (pRd f 4 d [] q) := by
  rw [pRd, if_neg (by omega), if_neg (by omega), if_pos rfl, h]
  dsimp only
  rw [ho]
  dsimp only
  cases pRd f 4 d [] q <;> rfl
theorem RdR.mid {gr : Nat} {lv tk : Value} {l : List Tk} {d : Nat} {ps x : List Pt} {W W1 : World} {o : PR} {kk : Int} {e : Ending} {w' : World} (h : RdR gr lv tk l d (ps ++ opP kk :: x) W1 o e w') (hb : Below gr W W1) : RdR gr lv tk l d ps W (midO kk x o) e w' := by
  cases o with
  | bad q => exact ⟨h.1, h.2.1, hb.trans h.2.2⟩
  | good y q =>
    obtain ⟨k, a1, a2, a3⟩ := h.2.1
    exact ⟨h.1, ⟨k, a1, a2, by rw [List.append_assoc, List.cons_append] at a3; exact a3⟩, hb.trans h.2.2⟩
theorem ins_at (ps x : List Pt) (p : Pt) : (ps ++ x).take ps.length ++ p :: (ps ++ x).drop ps.length = ps ++ p :: x := by
  rw [List.take_left', List.drop_left'] <;> rfl
set_option maxHeartbeats 4000000 in
set_option maxRecDepth 100000 in
theorem pair_any {f : Nat} (IH : RdOK f) {gr : Nat} {lv tk : Value} {l : List Tk} {k d : Nat} {ps : List Pt} {W : World} (h : Rd gr lv tk l k d ps W) {t : Tk} {r : List Tk} (ht : l.drop k = t :: r) (hE : Endd (t :: r)) (hd : d ≤ 200) (hps : ps.length + (t :: r).length ≤ 500000) (hm : mRd 3 (t :: r) ≤ f + 1) :
    Calls Tryz.prog 177 #[.pointer (some ⟨gr, 0, none⟩), .int .i64 3] W (RdR gr lv tk l d ps W (pRd (f + 1) 3 d [] (t :: r))) := by
  obtain ⟨ad, cap, c74⟩ := h.len
  have hlr : (t :: r).length = r.length + 1 := rfl
  have hmm : 8 * (r.length + 1) + 7 - 3 ≤ f + 1 := by rw [mRd_le (by omega)] at hm; exact hm
  have RD : Hid (Calls Tryz.prog 158 #[.pointer (some ⟨gr, 0, none⟩), .int .i64 4] W (RdR gr lv tk l d ps W (pRd f 4 d [] (t :: r)))) := hide (by
    have := IH gr lv tk l k d ps W 4 h (by omega) (by rw [ht]; exact hE) hd (by rw [ht]; exact hps) (by rw [ht, mRd_le (by omega), hlr]; omega)
    rw [ht] at this
    exact this)
  obtain ⟨ok1, ok2⟩ := pRd_ok f 4 d [] (t :: r) hE
  rw [if_pos (by omega)] at ok1
  have ok2 := ok2 (by omega)
  have HIH := hide IH
  cases hA : pRd f 4 d [] (t :: r) with
  | bad q =>
    rw [hA] at RD
    rw [pRd_3b hA]
    clear h ht hE hps hm hmm hlr IH HIH ok1 ok2 hA
    go_enter Tryz.func177, Tryz.ntmps177
    go_wp2_with fail
    refine (unhide RD).mono ?_
    intro e w1 hR
    obtain rfl : e = .returned (.bool false) := hR.ret
    have HF := hide hR
    clear hR RD c74
    go_wp2
    refine bodyPost_ret (results_tmp rfl _ _ _) rfl ?_
    exact unhide HF
  | good x q =>
    rw [hA] at RD ok1
    obtain ⟨hEq, hlen1, _⟩ := ok1
    have hlt := ok2 x q hA
    cases q with
    | nil => exact absurd rfl hEq.ne
    | cons c q =>
      have hlq : (c :: q).length = q.length + 1 := rfl
      have TO0 := fun w1 k1 (hr : Rd gr lv tk l k1 d (ps ++ x) w1) (h1 : l.drop k1 = c :: q) => takeOp_any hr h1 3 (by omega) ps.length (by simp) (by rw [List.length_append]; omega)
      cases ho : opA 3 (wdT c) with
      | none =>
        rw [ho] at TO0
        rw [pRd_3n hA ho]
        have HTO := hide TO0
        clear h ht hE hps hm hmm IH HIH ok2 hA hEq hlen1 hlt TO0 hlq hlr ho
        go_enter Tryz.func177, Tryz.ntmps177
        go_wp2_with fail
        refine (unhide RD).mono ?_
        rintro e w1 ⟨rfl, ⟨k1, a1, a2, a3⟩, a4⟩
        have TO : Hid (Calls Tryz.prog 188 #[.pointer (some ⟨gr, 0, none⟩), .int .i64 3, .int .i64 (ps.length : Int)] w1 (TkO gr lv tk l k1 d (ps ++ x) ps.length w1 none)) := hide (unhide HTO w1 k1 a3 a1)
        have HA := hide (And.intro a1 (And.intro a2 a4))
        clear RD c74 a1 a2 a3 a4 HTO
        go_wp2_with fail
        refine (unhide TO).mono ?_
        rintro e w2 ⟨rfl, b1, b2⟩
        have HF : Hid (RdR gr lv tk l d ps W (.good x (c :: q)) (.returned (.bool true)) w2) := hide ⟨rfl, ⟨k1, (unhide HA).1, (unhide HA).2.1, b1⟩, (unhide HA).2.2.trans b2⟩
        clear b1 b2 TO HA
        go_wp2
        refine bodyPost_ret (results_tmp rfl _ _ _) rfl ?_
        exact unhide HF
      | some kk =>
        rw [ho] at TO0
        rw [pRd_3s hA ho]
        have HTO := hide TO0
        have hEq2 := hEq.tail (opA_kd ho)
        have HRD2 : Hid (∀ w1 k1, Rd gr lv tk l k1 d (ps ++ opP kk :: x) w1 → l.drop k1 = q → Calls Tryz.prog 158 #[.pointer (some ⟨gr, 0, none⟩), .int .i64 4] w1 (RdR gr lv tk l d (ps ++ opP kk :: x) w1 (pRd f 4 d [] q))) := hide (fun w1 k1 hr h1 => by
          have := IH gr lv tk l k1 d (ps ++ opP kk :: x) w1 4 hr (by omega) (by rw [h1]; exact hEq2) hd (by rw [h1, List.length_append, List.length_cons]; omega) (by rw [h1, mRd_le (by omega)]; omega)
          rw [h1] at this
          exact this)
        obtain ⟨Q, hQ⟩ : ∃ Q, pRd f 4 d [] q = Q := ⟨_, rfl⟩
        rw [hQ] at HRD2 ⊢
        clear h ht hE hps hm hmm IH HIH ok2 hA hEq hlen1 hlt TO0 hlq hlr ho hEq2 hQ
        go_enter Tryz.func177, Tryz.ntmps177
        go_wp2_with fail
        refine (unhide RD).mono ?_
        rintro e w1 ⟨rfl, ⟨k1, a1, a2, a3⟩, a4⟩
        have TO : Hid (Calls Tryz.prog 188 #[.pointer (some ⟨gr, 0, none⟩), .int .i64 3, .int .i64 (ps.length : Int)] w1 (TkO gr lv tk l k1 d (ps ++ x) ps.length w1 (some kk))) := hide (unhide HTO w1 k1 a3 a1)
        have HA := hide (And.intro (drop_at a1).2.2 (And.intro a2 a4))
        clear RD c74 a1 a2 a3 a4 HTO
        go_wp2_with fail
        refine (unhide TO).mono ?_
        rintro e w2 ⟨rfl, b1, b2⟩
        rw [ins_at] at b1
        have RD2 := hide (unhide HRD2 w2 (k1 + 1) b1 (unhide HA).1)
        have HB2 := hide ((unhide HA).2.2.trans b2)
        clear b1 b2 TO HA HRD2
        go_wp2_with fail
        refine (unhide RD2).mono ?_
        intro e w3 hR
        obtain rfl := hR.ret
        have HF := hide (hR.mid (unhide HB2))
        clear hR RD2 HB2
        generalize midO kk x Q = PQ at *
        generalize Q.ok = b at *
        go_wp2
        refine bodyPost_ret (results_tmp rfl _ _ _) rfl ?_
        exact unhide HF
end Go.Proofs.YtjijhefmbmdbeaaGreatDoor
namespace Go.Proofs.YtjijhefmbmdbeaaGreatDoor
open Go.RowKit Go.Shelf
attribute [local irreducible] opsV

def shutO : PR → PR
  | .bad q => .bad q
  | .good x q => shut x q
theorem pRd_6a {f d : Nat} {t : Tk} {r : List Tk} (h : t.kd = 2) : pRd (f + 1) 6 d [] (t :: r) = .good [⟨1, t.n, txt [], txt [], 0⟩] r := by rw [pRd, if_pos rfl, if_pos h]
theorem pRd_6b {f d : Nat} {t : Tk} {r : List Tk} (h : t.kd = 3) : pRd (f + 1) 6 d [] (t :: r) = .good [⟨2, 0, t.s, txt [], 0⟩] r := by rw [pRd, if_pos rfl, if_neg (by omega), if_pos h]
theorem pRd_6c {f d : Nat} {t : Tk} {r : List Tk} (h : t.kd = 1) : pRd (f + 1) 6 d [] (t :: r) = fdR t r := by rw [pRd, if_pos rfl, if_neg (by omega), if_neg (by omega), if_pos h]
theorem pRd_6d {f d : Nat} {t : Tk} {r : List Tk} (h1 : t.kd ≠ 1) (h2 : t.kd ≠ 2) (h3 : t.kd ≠ 3) (h : wdT t = [40]) : pRd (f + 1) 6 d [] (t :: r) = shutO (inP f 0 d r) := by
  rw [pRd, if_pos rfl, if_neg h2, if_neg h3, if_neg h1, if_pos h]
  unfold inP
  split
  · cases pRd f 0 (d + 1) [] r <;> rfl
  · rfl
theorem pRd_6e {f d : Nat} {t : Tk} {r : List Tk} (h1 : t.kd ≠ 1) (h2 : t.kd ≠ 2) (h3 : t.kd ≠ 3) (h : wdT t ≠ [40]) : pRd (f + 1) 6 d [] (t :: r) = .bad (t :: r) := by rw [pRd, if_pos rfl, if_neg h2, if_neg h3, if_neg h1, if_neg h]
theorem inP_ok (f n d : Nat) (ts : List Tk) (hn : n ≤ 6) (h : Endd ts) : PRok 0 ts (inP f n d ts) := by
  unfold inP
  split
  · have := (pRd_ok f n (d + 1) [] ts h).1
    rwa [if_pos hn] at this
  · exact ⟨h, Nat.le_refl _⟩
/-- The token at hand, taken into a variable. -/
theorem tok_cells {gr : Nat} {lv tk : Value} {l : List Tk} {k d : Nat} {ps : List Pt} {W : World} (h : Rd gr lv tk l k d ps W) {t : Tk} {r : List Tk} (ht : l.drop k = t :: r) : ∃ b off cap, k < l.length ∧ l.length ≤ 100000 ∧ b < W.heap.size ∧ gr < W.heap.size ∧
    (∀ W', Kp [] W W' → W'.cell? ⟨gr, 71, none⟩ = some (.slice (some ⟨b, off, none⟩) l.length cap) ∧ W'.cell? ⟨gr, 72, none⟩ = some (.int .i64 (k : Int)) ∧ W'.cell? ⟨b, off + k * 4, none⟩ = some (.int .i64 t.kd) ∧ W'.cell? ⟨b, off + k * 4 + 1, none⟩ = some (.string t.s) ∧ W'.cell? ⟨b, off + k * 4 + 2, none⟩ = some (.int .i64 t.n) ∧ W'.cell? ⟨b, off + k * 4 + 3, none⟩ = some (.int .i64 t.pl)) := by
  obtain ⟨hk, ha, _⟩ := drop_at ht
  obtain ⟨pv, hb, _⟩ := h.box
  obtain ⟨b, off, cap, htk, hlt, hc⟩ := h.env.tks
  obtain ⟨c0, c1, c2, c3⟩ := hc k hk
  rw [ha] at c0 c1 c2 c3
  have hgl := (Array.getElem?_eq_some_iff.1 hb).1
  refine ⟨b, off, cap, hk, h.env.len, by omega, hgl, fun W' hk' => ?_⟩
  have e1 := hb.cell (rdC_71 lv tk k d pv)
  have e2 := hb.cell (rdC_72 lv tk k d pv)
  rw [htk] at e1
  exact ⟨hk'.cell e1 (by simp), hk'.cell e2 (by simp), hk'.cell c0 (by simp), hk'.cell c1 (by simp), hk'.cell c2 (by simp), hk'.cell c3 (by simp)⟩
set_option maxHeartbeats 4000000 in
set_option maxRecDepth 100000 in
theorem leaf_any {f : Nat} (IH : RdOK f) {gr : Nat} {lv tk : Value} {l : List Tk} {k d : Nat} {ps : List Pt} {W : World} (h : Rd gr lv tk l k d ps W) {t : Tk} {r : List Tk} (ht : l.drop k = t :: r) (hE : Endd (t :: r)) (hd : d ≤ 200) (hps : ps.length + (t :: r).length ≤ 500000) (hm : mRd 6 (t :: r) ≤ f + 1) :
    Calls Tryz.prog 178 #[.pointer (some ⟨gr, 0, none⟩), .int .i64 6] W (RdR gr lv tk l d ps W (pRd (f + 1) 6 d [] (t :: r))) := by
  obtain ⟨b, off, cap, hkl, hlen, hbW, hgl, hcs⟩ := tok_cells h ht
  obtain ⟨g1, g2, d0, d1, d2, d3⟩ := hcs _ (Kp.alloc W (.cells #[.int .i64 0, .string { data := #[] }, .int .i64 0, .int .i64 0] 74))
  obtain ⟨e1, e2, c0, c1, c2, c3⟩ := hcs W (Kp.refl _ _)
  have hd1 := (drop_at ht).2.2
  have hat := (drop_at ht).2.1
  have hsz : t.s.size ≤ 281474976710656 := by have := h.env.ok t (by rw [← hat]; exact List.getElem_mem hkl); omega
  have hbl : Below W.heap.size W (W.alloc (.cells #[.int .i64 t.kd, .string t.s, .int .i64 t.n, .int .i64 t.pl] 74)).drew := ((Below.refl _ _).alloc (Nat.le_refl _) _).trans ⟨rfl, rfl, rfl, Nat.le_refl _, fun _ _ => rfl⟩
  have HR0 := hide (h.below hbl)
  have HB0 := hide (hbl.mono (show gr ≤ W.heap.size by omega))
  have hlr : (t :: r).length = r.length + 1 := rfl
  have hps1 : ps.length ≤ 1000000 := by omega
  have hk1 : k ≤ 100000 := by omega
  obtain ⟨P, hP⟩ : ∃ P, pRd (f + 1) 6 d [] (t :: r) = P := ⟨_, rfl⟩
  rw [hP]
  have HP := hide hP
  have HIH := hide IH
  have HT := hide ht
  have HE := hide hE
  have HD1 := hide hd1
  clear hcs hP h hat hd1 ht hE IH hbl
  generalize hkd : t.kd = kd at *
  generalize hS : t.s = s at *
  generalize hN : t.n = n at *
  generalize t.pl = pl at *
  have HK := hide hkd
  have HSS := hide hS
  have HNN := hide hN
  clear hkd hS hN
  go_enter Tryz.func178, Tryz.ntmps178
  go_wp2
  go_region
  clear g1 g2 d0 d1 d2 d3 e1 e2 c0 c1 c2 c3
  by_cases h2 : kd = 2
  · subst h2
    have TA := hide (take_any (unhide HR0) ⟨1, n, txt [], txt [], 0⟩ hk1 hps1)
    unfold Pt.v at TA
    go_wp2_with fail
    refine (unhide TA).mono ?_
    rintro e w3 ⟨rfl, hr3, hb3⟩
    have HF : Hid (RdR gr lv tk l d ps W P (.returned (.bool true)) w3) := hide (by
      rw [← unhide HP, pRd_6a (unhide HK), unhide HNN]
      exact ⟨rfl, ⟨k + 1, unhide HD1, by omega, hr3⟩, (unhide HB0).trans hb3⟩)
    clear hr3 hb3 TA
    go_wp2
    refine bodyPost_ret (results_tmp rfl _ _ _) rfl ?_
    exact unhide HF
  have q2 : (kd == 2) = false := beq_eq_false_iff_ne.2 h2
  by_cases h3 : kd = 3
  · subst h3
    have CL := hide (clone_any s (W.alloc (.cells #[.int .i64 3, .string s, .int .i64 n, .int .i64 pl] 74)).drew hsz)
    go_wp2_with fail
    refine (unhide CL).mono ?_
    rintro e w2 ⟨rfl, hb2⟩
    have HR1 := hide ((unhide HR0).below hb2)
    have HB1 := hide ((unhide HB0).trans (hb2.mono (gr_le (unhide HR0))))
    have TA := hide (take_any (unhide HR1) ⟨2, 0, s, txt [], 0⟩ hk1 hps1)
    unfold Pt.v at TA
    clear hb2 CL HR0 HB0
    go_wp2_with fail
    refine (unhide TA).mono ?_
    rintro e w3 ⟨rfl, hr3, hb3⟩
    have HF : Hid (RdR gr lv tk l d ps W P (.returned (.bool true)) w3) := hide (by
      rw [← unhide HP, pRd_6b (unhide HK), unhide HSS]
      exact ⟨rfl, ⟨k + 1, unhide HD1, by omega, hr3⟩, (unhide HB1).trans hb3⟩)
    clear hr3 hb3 TA
    go_wp2
    refine bodyPost_ret (results_tmp rfl _ _ _) rfl ?_
    exact unhide HF
  have q3 : (kd == 3) = false := beq_eq_false_iff_ne.2 h3
  by_cases h1 : kd = 1
  · subst h1
    have FD := hide (field_any (unhide HR0) (unhide HT) (unhide HK) (unhide HE) hps1)
    rw [← pRd_6c (f := f) (d := d) (unhide HK), unhide HP] at FD
    go_wp2_with fail
    refine (unhide FD).mono ?_
    intro e w2 hR
    obtain ⟨rfl, k1, ps1, a1, a2, a3, a4, a5⟩ := hR.to
    have HF := hide (RdR.of a1 a2 a3 a4 ((unhide HB0).trans a5))
    clear hR FD a1 a2 a3 a4 a5 HP
    generalize P.ok = bb at *
    go_wp2
    refine bodyPost_ret (results_tmp rfl _ _ _) rfl ?_
    exact unhide HF
  have q1 : (kd == 1) = false := beq_eq_false_iff_ne.2 h1
  have SK : Hid (Calls Tryz.prog 192 #[.pointer (some ⟨gr, 0, none⟩), .string { data := #[40] }] (W.alloc (.cells #[.int .i64 kd, .string s, .int .i64 n, .int .i64 pl] 74)).drew fun e w' => e = .returned (.bool (decide (wdT t = [40]))) ∧ Rd gr lv tk l (if wdT t = [40] then k + 1 else k) d ps w' ∧ Below gr (W.alloc (.cells #[.int .i64 kd, .string s, .int .i64 n, .int .i64 pl] 74)).drew w') := hide (skip_any (unhide HR0) (unhide HT) ⟨#[40]⟩)
  by_cases hp : wdT t = [40]
  · rw [if_pos hp, decide_eq_true hp] at SK
    have hEr := (unhide HE).tail (wdT_kd (by rw [hp]; simp))
    have HP2 : Hid (P = shutO (inP f 0 d r)) := hide (by rw [← unhide HP]; exact pRd_6d (by rw [unhide HK]; exact h1) (by rw [unhide HK]; exact h2) (by rw [unhide HK]; exact h3) hp)
    have hok := inP_ok f 0 d r (by omega) hEr
    have HIN : Hid (∀ w1, Rd gr lv tk l (k + 1) d ps w1 → Calls Tryz.prog 189 #[.pointer (some ⟨gr, 0, none⟩), .int .i64 0] w1 (RdR gr lv tk l d ps w1 (inP f 0 d r))) := hide (fun w1 hr1 => by
      have := inner_any (unhide HIH) hr1 0 (by omega) (by rw [unhide HD1]; exact hEr) hd (by rw [unhide HD1]; omega) (by rw [unhide HD1, mRd_le (by omega)]; rw [mRd_le (by omega)] at hm; omega) (by omega)
      rw [unhide HD1] at this
      exact this)
    generalize inP f 0 d r = Q at *
    have HOK := hide hok
    clear hok hEr hp HP HE HT HIH HD1 hm HK
    go_wp2_with fail
    refine (unhide SK).mono ?_
    rintro e w1 ⟨rfl, hr1, hb1⟩
    have IN := hide (unhide HIN w1 hr1)
    have HB1 := hide ((unhide HB0).trans hb1)
    clear hr1 hb1 SK HIN HR0 HB0
    cases Q with
    | bad q =>
      go_wp2_with fail
      refine (unhide IN).mono ?_
      intro e w2 hR
      obtain rfl : e = .returned (.bool false) := hR.ret
      have HF : Hid (RdR gr lv tk l d ps W P (.returned (.bool false)) w2) := hide (by
        rw [unhide HP2]
        exact ⟨rfl, hR.2.1, (unhide HB1).trans hR.2.2⟩)
      clear hR IN HB1 HP2
      go_wp2
      refine bodyPost_ret (results_tmp rfl _ _ _) rfl ?_
      exact unhide HF
    | good x q =>
      obtain ⟨c, q', rfl⟩ : ∃ c q', q = c :: q' := by
        cases q with
        | nil => exact absurd rfl (unhide HOK).1.ne
        | cons c q' => exact ⟨c, q', rfl⟩
      go_wp2_with fail
      refine (unhide IN).mono ?_
      rintro e w2 ⟨rfl, ⟨k1, a1, a2, a3⟩, a4⟩
      have hk2 := (drop_at a1).2.2
      have hk3 := (drop_at a1).1
      have SK2 : Hid (Calls Tryz.prog 192 #[.pointer (some ⟨gr, 0, none⟩), .string { data := #[41] }] w2 fun e w' => e = .returned (.bool (decide (wdT c = [41]))) ∧ Rd gr lv tk l (if wdT c = [41] then k1 + 1 else k1) d (ps ++ x) w' ∧ Below gr w2 w') := hide (skip_any a3 a1 ⟨#[41]⟩)
      have HB2 := hide ((unhide HB1).trans a4)
      have HA1 := hide a1
      clear a1 a2 a3 a4 IN HB1
      go_wp2_with fail
      refine (unhide SK2).mono ?_
      rintro e w3 ⟨rfl, hr3, hb3⟩
      have HF : Hid (RdR gr lv tk l d ps W P (.returned (.bool (decide (wdT c = [41])))) w3) := hide (by
        rw [unhide HP2, shutO, shut]
        by_cases hc : wdT c = [41]
        · rw [if_pos hc] at hr3 ⊢
          exact ⟨by rw [decide_eq_true hc], ⟨k1 + 1, hk2, by omega, hr3⟩, (unhide HB2).trans hb3⟩
        · rw [if_neg hc] at hr3 ⊢
          exact ⟨by rw [decide_eq_false hc], ⟨k1, ps ++ x, unhide HA1, by omega, hr3⟩, (unhide HB2).trans hb3⟩)
      clear hr3 hb3 SK2 HB2 HP2 HA1
      generalize decide (wdT c = [41]) = bb at *
      go_wp2
      refine bodyPost_ret (results_tmp rfl _ _ _) rfl ?_
      exact unhide HF
  · rw [if_neg hp, decide_eq_false hp] at SK
    have HP2 : Hid (P = .bad (t :: r)) := hide (by rw [← unhide HP]; exact pRd_6e (by rw [unhide HK]; exact h1) (by rw [unhide HK]; exact h2) (by rw [unhide HK]; exact h3) hp)
    clear hp HP
    go_wp2_with fail
    refine (unhide SK).mono ?_
    rintro e w1 ⟨rfl, hr1, hb1⟩
    have HF : Hid (RdR gr lv tk l d ps W P (.returned (.bool false)) w1) := hide (by
      rw [unhide HP2]
      exact ⟨rfl, ⟨k, ps, unhide HT, by omega, hr1⟩, (unhide HB0).trans hb1⟩)
    clear hr1 hb1 SK HP2
    go_wp2
    refine bodyPost_ret (results_tmp rfl _ _ _) rfl ?_
    exact unhide HF
end Go.Proofs.YtjijhefmbmdbeaaGreatDoor
