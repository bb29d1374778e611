/-
  Links: the chapter's example; a number from 0 to n - 1.
  LinkWaits: the walk.
-/
import Derived.Test.YtjacedlfkimlhaaLk15
namespace Go.Proofs.Ytjacedlfkimlhaa
open Go.RowKit Lk

set_option maxHeartbeats 400000 in
theorem lAmong_any (x n : Int) (w : World) (hn : 0 < n) (hn1 : n ≤ 1099511627776) :
    Calls Try.prog 12 #[.int .i64 x, .int .i64 n] w fun e w' => e = .returned (.int .i64 (x % n)) ∧ w' = w := by
  have hne : (n == 0) = false := beq_eq_false_iff_ne.2 (by omega)
  have e1 := among_eq x n hn
  have b1 : -n < x.tmod n := Int.lt_tmod_of_pos x hn
  have b2 : x.tmod n < n := Int.tmod_lt_of_pos x hn
  go_enter Try.func12, Try.ntmps12
  go_wp2
  go_ret
  exact ⟨rfl, rfl⟩
/-- The links of the chapter's example, one by one. -/
def xA : ByteArray := ⟨#[97]⟩
def xB : ByteArray := ⟨#[98]⟩
def x0 : Snd := sd0 3 8 5
def x1 : Snd := luS x0 xA
def x2 : Snd := luS x1 xB
def x3 : Snd := ldS x2 0
def p0 : Rcv := rc0 3 8
def p1 : Rcv := ltR p0 (dataB 3 1 xB)
def p2 : Rcv := ltR p1 (dataB 3 0 xA)
def x4 : Snd := lhS x3 (ackB 3 2)
theorem xr0 : lrD (dataB 3 1 xB) = some (3, 1, xB) := lrD_data (by decide) (by decide) (by decide) (by decide) (by decide)
theorem xr1 : lrD (dataB 3 0 xA) = some (3, 0, xA) := lrD_data (by decide) (by decide) (by decide) (by decide) (by decide)
theorem xr2 : lrA (ackB 3 2) = some (3, 2) := lrA_ack (by decide) (by decide) (by decide) (by decide)
theorem xo0 : SOk x0 := sd0_ok (by decide)
theorem xo1 : SOk x1 := xo0.luS _
theorem xo2 : SOk x2 := xo1.luS _
theorem xo3 : SOk x3 := xo2.ldS _
theorem po0 : ROk p0 := rc0_ok (by decide)
theorem po1 : ROk p1 := po0.ltR _
theorem xa1 : luE x0 xA = 0 := by rfl
theorem xa2 : luE x1 xB = 0 := by rfl
theorem xa3 : ldE x2 0 = 0 ∧ ldO x2 0 = [dataB 3 0 xA, dataB 3 1 xB] := ⟨by rfl, by rfl⟩
theorem xa4 : ltE p0 (dataB 3 1 xB) = 0 ∧ ltO p0 (dataB 3 1 xB) = [] ∧ p1 = ⟨3, 8, 0, [(1, xB)]⟩ := by
  obtain ⟨e1, e2, e3, _⟩ := ltE_ok (r := p0) xr0
  refine ⟨e1, by rw [e3]; rfl, ?_⟩
  unfold p1
  rw [e2]
  rfl
theorem xa5 : ltE p1 (dataB 3 0 xA) = 0 ∧ ltO p1 (dataB 3 0 xA) = [xA, xB] ∧ ltA p1 (dataB 3 0 xA) = ackB 3 2 := by
  rw [xa4.2.2]
  obtain ⟨e1, e2, e3, e4⟩ := ltE_ok (r := ⟨3, 8, 0, [(1, xB)]⟩) xr1
  refine ⟨e1, by rw [e3]; rfl, ?_⟩
  rw [e4]
  rfl
theorem xa6 : lhE x3 (ackB 3 2) = 0 ∧ x4.left.length = 0 := by
  obtain ⟨e1, e2⟩ := lhE_some (s := x3) xr2
  have h1 : lhE x3 (ackB 3 2) = 0 := by rw [e1]; rfl
  refine ⟨h1, ?_⟩
  unfold x4
  rw [e2, h1]
  rfl
/-- What stays of a world while links of the call's own go on. -/
theorem ko_lk {P : Obj → Bool} {B B' : Nat} {w W W' : World} (h : Ko lkO B w W) (k : Ko P B' W W') (hB : B ≤ B') (hP : ∀ o, P o = true → lkO o = true) : Ko lkO B w W' := h.trans (k.mono hB hP)
theorem sdO_lk (o : Obj) (h : sdO o = true) : lkO o = true := by unfold lkO; rw [h]; rfl
theorem rcO_lk (o : Obj) (h : rcO o = true) : lkO o = true := by unfold lkO; rw [h, Bool.or_true]
theorem ko_kp {P : Obj → Bool} {w w' : World} (h : Ko P w.heap.size w w') : Kp [] w w' := Kp.ofBelow (h.below (Nat.le_refl _))
theorem sdO_rc (o : Obj) (h : rcO o = true) : sdO o = false := by
  cases o with
  | cells cs t f =>
    have ht : (t == 68) = true := h
    rw [beq_iff_eq] at ht
    subst ht
    rfl
  | _ => rfl
theorem rcO_sd (o : Obj) (h : sdO o = true) : rcO o = false := by
  cases hr : rcO o with
  | false => rfl
  | true => rw [sdO_rc o hr] at h; cases h
/-- A row of texts is of no link. -/
theorem TxO.ko {P : Obj → Bool} {B B' : Nat} {w w' : World} {v : Value} {l : List ByteArray} (h : TxO B w v l) (hk : Ko P B' w w') (hP : B' = w.heap.size ∨ ∀ o, P o = true → lkO o = true) : TxO B w' v l := by
  obtain ⟨h1, h2 | ⟨g, cp, cur, rfl, hb, hh, r⟩⟩ := h
  · exact ⟨h1, Or.inl h2⟩
  · refine ⟨h1, Or.inr ⟨g, cp, cur, rfl, hb, hk.block g _ hh ?_, r⟩⟩
    rcases hP with rfl | hP
    · exact Or.inl (Array.getElem?_eq_some_iff.1 hh).1
    · cases hp : P (.cells cur 9 (0, 0)) with
      | false => exact Or.inr rfl
      | true =>
        have hn : lkO (.cells cur 9 (0, 0)) = false := rfl
        rw [hP _ hp] at hn
        cases hn
set_option maxHeartbeats 4000000 in
set_option maxRecDepth 100000 in
theorem lworks_any (w : World) : Calls Try.prog 11 #[] w fun e w' => e = .returned (.bool true) ∧ Kp [] w w' := by
  have N1 := hide (newSender_ok 3 8 5 w (by decide))
  have N2 := hide (fun W => newReceiver_ok 3 8 W (by decide))
  have S1 := hide (fun W b (h : SdAt w.heap.size W b x0) => lPush_any _ b x0 xA W h xo0 (by decide))
  have S2 := hide (fun W b (h : SdAt w.heap.size W b x1) => lPush_any _ b x1 xB W h xo1 (by decide))
  have S3 := hide (fun W b (h : SdAt w.heap.size W b x2) => lDue_any _ b x2 0 W h xo2)
  have S4 := hide (fun W b (h : RcAt w.heap.size W b p0) => lTake_any _ b p0 (dataB 3 1 xB) W h po0 (by have := dataB_size (ep := 3) (n := 1) (b := xB) (by decide) (by decide) (by decide) (by decide) (by decide); omega))
  have S5 := hide (fun W b (h : RcAt w.heap.size W b p1) => lTake_any _ b p1 (dataB 3 0 xA) W h po1 (by have := dataB_size (ep := 3) (n := 0) (b := xA) (by decide) (by decide) (by decide) (by decide) (by decide); omega))
  have S6 := hide (fun W b (h : SdAt w.heap.size W b x3) => lHeard_any _ b x3 (ackB 3 2) W h xo3 (by have := ackB_size (ep := 3) (n := 2) (by decide) (by decide) (by decide) (by decide); omega))
  have S7 := hide (fun W b (h : SdAt w.heap.size W b x4) => h.elim fun v h => lLeft_any b v x4 W h.1)
  rw [xa1] at S1
  rw [xa2] at S2
  rw [xa3.1, xa3.2] at S3
  rw [xa4.1, xa4.2.1, show ltR p0 (dataB 3 1 xB) = p1 from rfl] at S4
  rw [xa5.1, xa5.2.1, xa5.2.2] at S5
  rw [xa6.1, show lhS x3 (ackB 3 2) = x4 from rfl] at S6
  rw [xa6.2] at S7
  have HXA : Hid (xA = ⟨#[97]⟩) := hide rfl
  have HXB : Hid (xB = ⟨#[98]⟩) := hide rfl
  unfold xA at S1
  unfold xB at S2
  generalize dataB 3 0 xA = d0 at *
  generalize dataB 3 1 xB = d1 at *
  generalize ackB 3 2 = ak at *
  generalize ltA p0 d1 = ak0 at *
  go_enter Try.func11, Try.ntmps11
  go_wp2_with fail
  refine (unhide N1).mono ?_
  rintro r w1 ⟨b, rfl, h1, k1⟩
  have H1 := hide h1
  have K1 : Hid (Ko lkO w.heap.size w w1) := hide (Ko.nil k1)
  clear N1 h1 k1
  go_wp2_with fail
  refine (unhide N2 _).mono ?_
  rintro r w2 ⟨c, rfl, h2, k2⟩
  have H2 : Hid (SdAt w.heap.size w2 b x0) := hide ((unhide H1).kp k2)
  have R2 : Hid (RcAt w.heap.size w2 c p0) := hide (by
    obtain ⟨q, g1, g2, g3⟩ := h2
    have := (unhide K1).size
    exact ⟨q, g1, by omega, by omega⟩)
  have K2 : Hid (Ko lkO w.heap.size w w2) := hide ((unhide K1).trans (Ko.nil k2))
  clear N2 h2 k2 H1 K1
  go_wp2_with fail
  refine (unhide S1 _ _ (unhide H2)).mono ?_
  rintro r w3 ⟨rfl, h3, k3⟩
  have H3 : Hid (SdAt w.heap.size w3 b x1) := hide h3
  have R3 : Hid (RcAt w.heap.size w3 c p0) := hide ((unhide R2).ko k3 (Or.inr sdO_rc))
  have K3 := hide (ko_lk (unhide K2) k3 (Nat.le_refl _) sdO_lk)
  clear S1 h3 k3 H2 R2 K2
  go_wp2_with fail
  refine (unhide S2 _ _ (unhide H3)).mono ?_
  rintro r w4 ⟨rfl, h3, k3⟩
  have H4 : Hid (SdAt w.heap.size w4 b x2) := hide h3
  have R4 : Hid (RcAt w.heap.size w4 c p0) := hide ((unhide R3).ko k3 (Or.inr sdO_rc))
  have K4 := hide (ko_lk (unhide K3) k3 (Nat.le_refl _) sdO_lk)
  clear S2 h3 k3 H3 R3 K3
  go_wp2_with fail
  refine (unhide S3 _ _ (unhide H4)).mono ?_
  rintro r w5 ⟨v5, rfl, t5, h3, k3⟩
  have H5 : Hid (SdAt w.heap.size w5 b x3) := hide h3
  have R5 : Hid (RcAt w.heap.size w5 c p0) := hide ((unhide R4).ko k3 (Or.inr sdO_rc))
  have K5 := hide (ko_lk (unhide K4) k3 (Nat.le_refl _) sdO_lk)
  have T5 := hide t5
  obtain ⟨ad, cp, rfl, hcp, ts⟩ := t5.strs
  obtain ⟨sb, so, rfl, _, hc⟩ := ts (by simp)
  have c0 := hc 0 (by simp)
  have c1 := hc 1 (by simp)
  simp only [List.getElem_cons_zero, List.getElem_cons_succ, Nat.add_zero] at c0 c1
  have CC : Hid (∀ W, Ko rcO w.heap.size w5 W → W.cell? ⟨sb, so, none⟩ = some (.string d0)) := hide (fun W hk => by
    obtain ⟨ad', cp', e, _, ts'⟩ := (t5.ko hk (Or.inr rcO_lk)).strs
    injection e with e
    obtain ⟨_, _, e2, _, hc'⟩ := ts' (by simp)
    rw [← e] at e2
    injection e2 with e2
    injection e2 with e3 e4
    subst e3 e4
    have := hc' 0 (by simp)
    simpa using this)
  clear S3 h3 k3 H4 R4 K4 hc ts t5 T5 hcp
  go_wp2_with fail
  refine (unhide S4 _ _ (unhide R5)).mono ?_
  rintro r w6 ⟨v6, rfl, t6, h3, k3⟩
  have c0 := unhide CC w6 k3
  have H6 : Hid (SdAt w.heap.size w6 b x3) := hide ((unhide H5).ko k3 (Or.inr rcO_sd))
  have R6 : Hid (RcAt w.heap.size w6 c p1) := hide h3
  have K6 := hide (ko_lk (unhide K5) k3 (Nat.le_refl _) rcO_lk)
  obtain ⟨ad6, cp6, rfl, _⟩ := t6.form
  clear S4 h3 k3 H5 R5 K5 CC t6 c1
  go_wp2_with fail
  refine (unhide S5 _ _ (unhide R6)).mono ?_
  rintro r w7 ⟨v7, rfl, t7, h3, k3⟩
  have H7 : Hid (SdAt w.heap.size w7 b x3) := hide ((unhide H6).ko k3 (Or.inr rcO_sd))
  have K7 := hide (ko_lk (unhide K6) k3 (Nat.le_refl _) rcO_lk)
  obtain ⟨ad7, cp7, rfl, _, ts7⟩ := t7.strs
  have ka := Kp.alloc w7 (.cells #[.string ⟨#[97]⟩, .string ⟨#[98]⟩] 9)
  have SM := hide (sameStrs_true ad7 (some ⟨w7.heap.size, 0, none⟩) cp7 2 [xA, xB] (w7.alloc (.cells #[.string ⟨#[97]⟩, .string ⟨#[98]⟩] 9)) (strs_kp ts7 ka) (fun _ => ⟨_, 0, rfl, by simp, fun i hi => by
    have hb := CBox.new w7 #[.string ⟨#[97]⟩, .string ⟨#[98]⟩] 9
    match i, hi with
    | 0, _ => exact hb.cell rfl
    | 1, _ => exact hb.cell rfl⟩) (by simp))
  have H8 := hide ((unhide H7).kp ka)
  have K8 : Hid (Ko lkO w.heap.size w (w7.alloc (.cells #[.string ⟨#[97]⟩, .string ⟨#[98]⟩] 9))) := hide ((unhide K7).trans (Ko.nil ka))
  clear S5 h3 k3 H6 R6 K6 c0 t7 ts7 ka H7 K7
  go_wp2_with fail
  refine (unhide SM).mono ?_
  rintro r w8 ⟨rfl, k8⟩
  have H9 := hide ((unhide H8).kp k8)
  have K9 := hide ((unhide K8).trans (Ko.nil k8))
  clear SM k8 H8 K8
  go_wp2_with fail
  refine (unhide S6 _ _ (unhide H9)).mono ?_
  rintro r w9 ⟨rfl, h3, k3⟩
  have H10 : Hid (SdAt w.heap.size w9 b x4) := hide h3
  have K10 := hide (ko_lk (unhide K9) k3 (Nat.le_refl _) sdO_lk)
  clear S6 h3 k3 H9 K9
  go_wp2_with fail
  refine (unhide S7 _ _ (unhide H10)).mono ?_
  rintro r w10 ⟨rfl, rfl⟩
  clear S7 H10
  go_wp2
  go_ret
  exact ⟨rfl, ko_kp (unhide K10)⟩
end Go.Proofs.Ytjacedlfkimlhaa
namespace Go.Proofs.Ytjacedlfkimlhaa
open Go.RowKit Lk

/-- A sender of which nothing was sent yet. -/
structure Fresh (s : Snd) (W : Nat) (P : Int) (k : Nat) : Prop where
  ok : SOk s
  ep : s.ep = 1
  wd : s.wd = W
  pt : s.pt = P
  first : s.first = 0
  now : s.now = 0
  len : s.left.length = k
  un : ∀ x ∈ s.left, x.at_ = -1
theorem Fresh.start {W P : Nat} (h1 : 1 ≤ W) (h2 : W ≤ 256) (h3 : 1 ≤ P) (h4 : P ≤ 256) : Fresh (sd0 1 (W : Int) (P : Int)) W (P : Int) 0 := by
  refine ⟨sd0_ok ?_, rfl, by simp [sd0], rfl, rfl, rfl, rfl, fun x hx => by cases hx⟩
  unfold lepB lstB
  simp
  omega
theorem Fresh.push {s : Snd} {W : Nat} {P : Int} {k : Nat} (h : Fresh s W P k) (b : ByteArray) (hb : b.size ≤ 500) (hk : k ≤ 1000) : luE s b = 0 ∧ Fresh (luS s b) W P (k + 1) := by
  have he : luE s b = 0 := by
    unfold luE
    rw [h.len, h.first, if_neg (by omega)]
  refine ⟨he, h.ok.luS b, ?_, ?_, ?_, ?_, ?_, ?_, ?_⟩
  all_goals unfold luS; rw [if_pos he]
  · exact h.ep
  · exact h.wd
  · exact h.pt
  · exact h.first
  · exact h.now
  · rw [List.length_append, h.len]; rfl
  · intro x hx
    rcases List.mem_append.1 hx with hx | hx
    · exact h.un x hx
    · rw [List.mem_singleton] at hx
      subst hx
      rfl
theorem lpk_all (ep pt t : Int) : ∀ (n : Nat) (l : List Pu), (∀ x ∈ l, lagn pt t x = true) → (lpk ep pt t n l).length = l.length
  | _, [], _ => rfl
  | n, x :: r, h => by
    rw [lpk, if_pos (h x (List.mem_cons_self ..)), List.length_cons, List.length_cons, lpk_all ep pt t (n + 1) r (fun y hy => h y (List.mem_cons_of_mem _ hy))]
theorem lpk_none (ep pt t : Int) : ∀ (n : Nat) (l : List Pu), (∀ x ∈ l, lagn pt t x = false) → lpk ep pt t n l = []
  | _, [], _ => rfl
  | n, x :: r, h => by
    rw [lpk, if_neg (by rw [h x (List.mem_cons_self ..)]; decide), lpk_none ep pt t (n + 1) r (fun y hy => h y (List.mem_cons_of_mem _ hy))]
/-- The tick at which the first ones were last sent, ahead of tick t. -/
def lastT (P t : Nat) : Int := if t = 0 then -1 else ((P * ((t - 1) / P) : Nat) : Int)
structure Wt (s : Snd) (W P m t : Nat) : Prop where
  ok : SOk s
  wd : s.wd = W
  pt : s.pt = (P : Int)
  len : s.left.length = m
  now : s.now ≤ (t : Int)
  un : ∀ x ∈ s.left.take W, x.at_ = lastT P t
theorem Fresh.wt {s : Snd} {W P m : Nat} (h : Fresh s W (P : Int) m) : Wt s W P m 0 := ⟨h.ok, h.wd, h.pt, h.len, by rw [h.now]; decide, fun x hx => by rw [h.un x (List.mem_of_mem_take hx)]; rfl⟩
theorem take_marks (pt t : Int) (k : Nat) (l : List Pu) : (lmks pt t k l).take k = (l.take k).map (lmk pt t) := by
  unfold lmks
  rcases Nat.le_total k l.length with h | h
  · have e : ((l.take k).map (lmk pt t)).length = k := by rw [List.length_map, List.length_take]; omega
    rw [List.take_append_of_le_length (by omega), List.take_of_length_le (by omega)]
  · rw [List.drop_of_length_le h, List.append_nil, List.take_of_length_le (by rw [List.length_map, List.length_take]; omega)]
theorem lagn_last {P t : Nat} (hP : 1 ≤ P) (x : Pu) (hx : x.at_ = lastT P t) : lagn (P : Int) (t : Int) x = decide (t % P = 0) ∧ (lmk (P : Int) (t : Int) x).at_ = lastT P (t + 1) := by
  have hd := Nat.div_add_mod t P
  have hm := Nat.mod_lt t (show P > 0 by omega)
  have hl : lagn (P : Int) (t : Int) x = decide (t % P = 0) := by
    unfold lagn
    rw [hx]
    unfold lastT
    by_cases h0 : t = 0
    · subst h0
      rw [if_pos rfl, Nat.zero_mod]
      rfl
    · rw [if_neg h0]
      have hn : (((P * ((t - 1) / P) : Nat) : Int) == -1) = false := beq_eq_false_iff_ne.2 (by omega)
      rw [hn, Bool.false_or]
      by_cases hz : t % P = 0
      · rw [decide_eq_true hz]
        have hq : 1 ≤ t / P := Nat.div_pos (Nat.le_of_dvd (by omega) (Nat.dvd_of_mod_eq_zero hz)) (by omega)
        have e : (t - 1) / P = t / P - 1 := by
          apply Nat.div_eq_of_lt_le
          · rw [Nat.sub_mul, Nat.one_mul, Nat.mul_comm]; omega
          · have : (t / P - 1 + 1) = t / P := by omega
            rw [this, Nat.mul_comm]; omega
        rw [e]
        have : P * (t / P - 1) = P * (t / P) - P := by rw [Nat.mul_sub, Nat.mul_one]
        rw [this]
        have : P ≤ P * (t / P) := Nat.le_mul_of_pos_right P hq
        exact decide_eq_true (by omega)
      · rw [decide_eq_false hz]
        have e : (t - 1) / P = t / P := by
          apply Nat.div_eq_of_lt_le
          · rw [Nat.mul_comm]; omega
          · rw [Nat.add_mul, Nat.one_mul, Nat.mul_comm]; omega
        rw [e]
        exact decide_eq_false (by omega)
  refine ⟨hl, ?_⟩
  unfold lmk
  rw [hl]
  by_cases hz : t % P = 0
  · rw [decide_eq_true hz, if_pos rfl]
    unfold lastT
    rw [if_neg (by omega), Nat.add_sub_cancel]
    dsimp only
    omega
  · rw [decide_eq_false hz, if_neg (by decide), hx]
    unfold lastT
    have h0 : ¬ t = 0 := fun e => hz (by rw [e]; exact Nat.zero_mod P)
    rw [if_neg h0, if_neg (by omega), Nat.add_sub_cancel]
    have e : (t - 1) / P = t / P := by
      apply Nat.div_eq_of_lt_le
      · rw [Nat.mul_comm]; omega
      · rw [Nat.add_mul, Nat.one_mul, Nat.mul_comm]; omega
    rw [e]
theorem Wt.step {s : Snd} {W P m t : Nat} (h : Wt s W P m t) (hP : 1 ≤ P) (ht : t ≤ 1000) : ldE s (t : Int) = 0 ∧ (ldO s (t : Int)).length = (if t % P = 0 then min m W else 0) ∧ Wt (ldS s (t : Int)) W P m (t + 1) := by
  have hnow := h.now
  have he : ldE s (t : Int) = 0 := by unfold ldE; rw [if_neg (by omega)]
  refine ⟨he, ?_, h.ok.ldS _, ?_, ?_, ?_, ?_, ?_⟩
  · unfold ldO
    rw [if_pos he, h.wd, h.pt]
    by_cases hz : t % P = 0
    · rw [if_pos hz, lpk_all _ _ _ _ _ (fun x hx => by rw [(lagn_last hP x (h.un x hx)).1, decide_eq_true hz]), List.length_take, h.len]
      omega
    · rw [if_neg hz, lpk_none _ _ _ _ _ (fun x hx => by rw [(lagn_last hP x (h.un x hx)).1, decide_eq_false hz])]
      rfl
  all_goals unfold ldS; rw [if_pos he]
  · exact h.wd
  · exact h.pt
  · dsimp only; rw [lmks_len, h.len]
  · dsimp only; omega
  · intro x hx
    dsimp only at hx
    rw [h.wd, h.pt, take_marks] at hx
    obtain ⟨y, hy, rfl⟩ := List.mem_map.1 hx
    exact (lagn_last hP y (h.un y hy)).2
theorem lstrs_cell {w W : World} {ad : Option Addr} {l : List ByteArray} (h : StrsAt w ad l) (hb : Below w.heap.size w W) (i : Nat) (hi : i < l.length) : ∃ b o, ad = some ⟨b, o, none⟩ ∧ W.cell? ⟨b, o + i, none⟩ = some (.string l[i]) := by
  obtain ⟨b, o, e, hlt, hc⟩ := h (by intro e; rw [e] at hi; cases hi)
  exact ⟨b, o, e, (hb.cell (p := ⟨b, o + i, none⟩) hlt).trans (hc i hi)⟩
set_option maxHeartbeats 8000000 in
set_option maxRecDepth 100000 in
theorem lwaits_walk (x0 x1 : Int) (ad : Option Addr) (cap : Nat) (l : List ByteArray) (w : World) (_hl : l.length ≤ 9223372036854775807) (hA : StrsAt w ad l) (hok : ∀ y ∈ l, y.size ≤ 9223372036854775807) :
    Calls Try.prog 6 #[.int .i64 x0, .int .i64 x1, .slice ad l.length cap] w fun e w' => e = .returned (.bool true) ∧ Below w.heap.size w w' := by
  have WK := hide (lworks_any w)
  have AM0 := hide (fun W => lAmong_any x0 20 W (by decide) (by decide))
  have AM1 := hide (fun W => lAmong_any x1 20 W (by decide) (by decide))
  obtain ⟨wn, hwn⟩ : ∃ wn : Nat, x0 % 20 = (wn : Int) := ⟨(x0 % 20).toNat, by have := Int.emod_nonneg x0 (show (20 : Int) ≠ 0 by decide); omega⟩
  obtain ⟨pn, hpn⟩ : ∃ pn : Nat, x1 % 20 = (pn : Int) := ⟨(x1 % 20).toNat, by have := Int.emod_nonneg x1 (show (20 : Int) ≠ 0 by decide); omega⟩
  have hwl : wn < 20 := by have := Int.emod_lt_of_pos x0 (show (0 : Int) < 20 by decide); omega
  have hpl : pn < 20 := by have := Int.emod_lt_of_pos x1 (show (0 : Int) < 20 by decide); omega
  rw [hwn] at AM0
  rw [hpn] at AM1
  have HL := hide hA
  have HOK := hide hok
  clear hA hok hwn hpn
  obtain ⟨WN, hWN⟩ : ∃ WN : Nat, WN = 1 + wn := ⟨_, rfl⟩
  obtain ⟨PN, hPN⟩ : ∃ PN : Nat, PN = 1 + pn := ⟨_, rfl⟩
  have hW0 : (1 : Int) + (wn : Int) = (WN : Int) := by omega
  have hP0 : (1 : Int) + (pn : Int) = (PN : Int) := by omega
  have NS := hide (fun W => newSender_ok 1 (WN : Int) (PN : Int) W (by unfold lepB lstB; simp; omega))
  have FR := hide (Fresh.start (W := WN) (P := PN) (by omega) (by omega) (by omega) (by omega))
  have hW1 : 1 ≤ WN ∧ WN ≤ 20 := by omega
  have hP1 : 1 ≤ PN ∧ PN ≤ 20 := by omega
  clear hWN hPN
  go_enter Try.func6, Try.ntmps6
  go_wp2_with fail
  refine (unhide WK).mono ?_
  rintro r w1 ⟨rfl, k1⟩
  have K1 := hide k1
  clear WK k1
  go_wp2_with fail
  refine (unhide AM0 _).mono ?_
  rintro r w1' ⟨rfl, rfl⟩
  go_wp2_with fail
  refine (unhide AM1 _).mono ?_
  rintro r w1' ⟨rfl, rfl⟩
  clear AM0 AM1
  go_wp2_with fail
  refine (unhide NS _).mono ?_
  rintro r w2 ⟨b, rfl, h2, k2⟩
  have HS : Hid (SdAt w.heap.size w2 b (sd0 1 (WN : Int) (PN : Int)) ∧ Ko lkO w.heap.size w w2) := hide (by
    have hz := (unhide K1).size
    obtain ⟨v, g1, g2, g3⟩ := h2
    exact ⟨⟨v, g1, by omega, fun k hk => by have := g3 k hk; omega⟩, (Ko.nil (unhide K1)).trans (Ko.nil k2)⟩)
  clear NS h2 k2 K1
  go_wp2_with fail
  go_loopw [9, 10] (fun mv iv wr => ∃ (k : Nat) (s : Snd), k ≤ l.length ∧ k ≤ 60 ∧ mv = .int .i64 (k : Int) ∧ iv = .int .i64 (k : Int) ∧ Hid (Fresh s WN (PN : Int) k ∧ SdAt w.heap.size wr b s ∧ Ko lkO w.heap.size w wr)) (fun _ iv _ => l.length - (intOf iv).toNat)
  case atStart => exact ⟨0, _, Nat.zero_le _, by decide, rfl, rfl, hide ⟨unhide FR, (unhide HS).1, (unhide HS).2⟩⟩
  case round =>
    clear HS FR
    obtain ⟨k, s, hkl, hk60, rfl, rfl, HR⟩ := hrel
    by_cases h1 : k < l.length ∧ k < 60
    · obtain ⟨h1, h2⟩ := h1
      have h1i : (k : Int) < (l.length : Int) := by omega
      have h2i : (k : Int) < 60 := by omega
      obtain ⟨lb, lo, rfl, hc⟩ := lstrs_cell (unhide HL) ((unhide HR).2.2.below (Nat.le_refl _)) k h1
      have hsz := unhide HOK l[k] (List.getElem_mem h1)
      by_cases h3 : 500 < (l[k]).size
      · have h3i : (500 : Int) < ((l[k]).size : Int) := by omega
        have HF := hide ((unhide HR).2.2.below (Nat.le_refl _))
        clear HR hsz h3
        generalize l[k] = y at *
        go_wp2
        go_ret
        exact ⟨rfl, unhide HF⟩
      · have h3i : ¬ (500 : Int) < ((l[k]).size : Int) := by omega
        obtain ⟨f1, f2⟩ := (unhide HR).1.push l[k] (by omega) (by omega)
        have PU := hide (lPush_any _ b s l[k] wr (unhide HR).2.1 (unhide HR).1.ok hsz)
        rw [f1] at PU
        have HF := hide f2
        have HK := hide (unhide HR).2.2
        clear HR f1 f2 h3
        generalize luS s l[k] = s2 at *
        generalize l[k] = y at *
        go_wp2_with fail
        refine (unhide PU).mono ?_
        rintro r w5 ⟨rfl, a1, a2⟩
        have HR2 := hide (And.intro (unhide HF) (And.intro a1 (ko_lk (unhide HK) a2 (Nat.le_refl _) sdO_lk)))
        clear a1 a2 PU HF HK hc
        go_wp2
        go_roundw
        case rel => exact ⟨k + 1, s2, by omega, by omega, by go_num, by go_num, HR2⟩
        case measure => simp [intOf]; omega
    · have hm : min (k : Int) (WN : Int) = ((min k WN : Nat) : Int) := by omega
      have h3p : (3 : Int) * (PN : Int) = ((3 * PN : Nat) : Int) := by omega
      have HW := hide (unhide HR).1.wt
      have HK := hide (unhide HR).2
      obtain ⟨m, hmE⟩ : ∃ m, m = min k WN := ⟨_, rfl⟩
      rw [← hmE] at hm
      have HM := hide hmE
      obtain ⟨T, hT⟩ : ∃ T, T = 3 * PN := ⟨_, rfl⟩
      rw [← hT] at h3p
      have hT60 : T ≤ 60 := by omega
      clear HR hmE hT
      have hout : ¬ (k : Int) < (l.length : Int) ∨ ¬ (k : Int) < 60 := by omega
      go_upto_region 9 with fail
      go_cut [43] (fun v wc => v = .bool false ∧ wc = wr)
      case first =>
        by_cases h5 : (k : Int) < (l.length : Int)
        · have h6 : ¬ (k : Int) < 60 := hout.resolve_left (fun h => h h5)
          clear hout
          go_wp2
          go_meet
          exact ⟨rfl, rfl⟩
        · clear hout
          go_wp2
          go_meet
          exact ⟨rfl, rfl⟩
      case rest =>
        obtain ⟨rfl, hw⟩ := hcut
        obtain rfl := hw.symm
        clear hout
        go_wp2_with fail
        go_loopw [67] (fun tv wr2 => ∃ (t : Nat) (s : Snd), t ≤ T + 1 ∧ tv = .int .i64 (t : Int) ∧ Hid (Wt s WN PN k t ∧ SdAt w.heap.size wr2 b s ∧ Ko lkO w.heap.size w wr2)) (fun tv _ => T + 1 - (intOf tv).toNat)
        case atStart => exact ⟨0, s, Nat.zero_le _, rfl, hide ⟨unhide HW, unhide HK⟩⟩
        case round =>
          clear HW HK
          obtain ⟨t, s, htT, rfl, HR⟩ := hrel
          by_cases h7 : t < T + 1
          · have h7i : (t : Int) < (T : Int) + 1 := by omega
            obtain ⟨f1, f2, f3⟩ := (unhide HR).1.step hP1.1 (by omega)
            have DU := hide (lDue_any _ b s (t : Int) wr (unhide HR).2.1 (unhide HR).1.ok)
            rw [f1] at DU
            have HF := hide f3
            have HK := hide (unhide HR).2.2
            have HLE := hide f2
            have hPz : ((PN : Int) == 0) = false := beq_eq_false_iff_ne.2 (by omega)
            have htm : (t : Int).tmod (PN : Int) = ((t % PN : Nat) : Int) := by rw [Int.tmod_eq_emod_of_nonneg (by omega)]; omega
            have hml := Nat.mod_lt t (show PN > 0 by omega)
            clear HR f1 f2 f3
            generalize ldS s (t : Int) = s2 at *
            generalize ldO s (t : Int) = L at *
            go_wp2_with fail
            refine (unhide DU).mono ?_
            rintro r w5 ⟨v, rfl, tx, a1, a2⟩
            obtain ⟨vad, vcp, rfl, _⟩ := tx.form
            have HR2 := hide (And.intro (unhide HF) (And.intro a1 (ko_lk (unhide HK) a2 (Nat.le_refl _) sdO_lk)))
            have LF := hide (a1.elim fun v h => lLeft_any b v s2 w5 h.1)
            rw [(unhide HF).len] at LF
            clear a1 a2 DU HF HK tx
            generalize hMZ : t % PN = z at *
            have HMZ := hide hMZ
            clear hMZ
            by_cases h8 : z = 0
            · subst h8
              rw [if_pos rfl, ← unhide HM] at HLE
              have hle : ((L.length : Int) != (m : Int)) = false := by rw [unhide HLE]; simp
              clear HLE
              generalize L.length = ln at *
              go_wp2_with fail
              refine (unhide LF).mono ?_
              rintro r w6 ⟨rfl, rfl⟩
              clear LF
              go_wp2
              go_roundw
              case rel => exact ⟨t + 1, s2, by omega, by go_num, HR2⟩
              case measure => simp [intOf]; omega
            · rw [if_neg h8] at HLE
              have hle : ((L.length : Int) != 0) = false := by rw [unhide HLE]; simp
              have h8b : ((z : Int) == 0) = false := beq_eq_false_iff_ne.2 (by omega)
              clear HLE
              generalize L.length = ln at *
              go_wp2_with fail
              refine (unhide LF).mono ?_
              rintro r w6 ⟨rfl, rfl⟩
              clear LF
              go_wp2
              go_roundw
              case rel => exact ⟨t + 1, s2, by omega, by go_num, HR2⟩
              case measure => simp [intOf]; omega
          · have h7i : ¬ (t : Int) < (T : Int) + 1 := by omega
            have HF := hide ((unhide HR).2.2.below (Nat.le_refl _))
            clear HR
            go_wp2
            go_ret
            exact ⟨rfl, unhide HF⟩
end Go.Proofs.Ytjacedlfkimlhaa
