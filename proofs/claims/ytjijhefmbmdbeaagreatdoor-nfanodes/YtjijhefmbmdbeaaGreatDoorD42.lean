/-
  The document's answer: the kind of the expression that begins at a place; Check.
  The document's Check is the plain function's.
-/
import Derived.Test.YtjijhefmbmdbeaaGreatDoorD41
import Derived.Test.YtjijhefmbmdbeaaGreatDoorD15
namespace Go.Proofs.YtjijhefmbmdbeaaGreatDoor
open Go.RowKit Go.Shelf

/-- The kind of the expression that begins at a place, and the place behind, as the document has it. -/
def rkd (xs : List Pt) : Nat → Nat → Int × Nat
  | 0, _ => (0, 0)
  | n + 1, at_ => match xs[at_]? with
    | none => (0, 0)
    | some p => if mayP p = false then (0, 0) else if p.kd = 1 then (1, at_ + 1) else if p.kd = 2 then (2, at_ + 1) else if p.kd = 3 then (if p.fl < 4 then (1, at_ + 1) else (2, at_ + 1))
      else if (rkd xs n (at_ + 1)).1 ≠ 0 ∧ p.kd ≠ 13 then (if (rkd xs n (rkd xs n (at_ + 1)).2).1 = 0 then (0, 0) else (opK p.kd (rkd xs n (at_ + 1)).1 (rkd xs n (rkd xs n (at_ + 1)).2).1, (rkd xs n (rkd xs n (at_ + 1)).2).2))
      else (opK p.kd (rkd xs n (at_ + 1)).1 0, (rkd xs n (at_ + 1)).2)
theorem rkd_le (xs : List Pt) (n : Nat) : ∀ at_, (rkd xs n at_).2 ≤ xs.length := by
  induction n with
  | zero => intro at_; rw [rkd]; exact Nat.zero_le _
  | succ n ih =>
    intro at_
    rw [rkd]
    cases h : xs[at_]? with
    | none => exact Nat.zero_le _
    | some p =>
      have hl := (List.getElem?_eq_some_iff.1 h).1
      dsimp only
      repeat' split
      all_goals first | exact Nat.zero_le _ | exact hl | exact ih _
/-- What kind leaves. -/
def KdT (w : World) (n : Nat) (r : Int × Nat) (e : Ending) (w' : World) : Prop := ∃ D : Int, 0 ≤ D ∧ D ≤ (n : Int) ∧ e = .returned (.tuple #[.int .i64 r.1, .int .i64 (r.2 : Int), .int .i64 D]) ∧ Below w.heap.size w w'
def KdOK (ad : Option Addr) (cap : Nat) (xs : List Pt) (n : Nat) : Prop := ∀ (at_ : Nat) (w : World), at_ ≤ xs.length → PtsAt w ad xs → Calls Tryz.prog 85 #[.slice ad xs.length cap, .int .i64 (at_ : Int), .int .i64 (n : Int)] w (KdT w n (rkd xs n at_))
set_option maxHeartbeats 1000000 in
set_option maxRecDepth 100000 in
theorem rKind_end (ad : Option Addr) (cap : Nat) (xs : List Pt) (n at_ : Nat) (w : World) (h : n = 0 ∨ xs.length ≤ at_) : Calls Tryz.prog 85 #[.slice ad xs.length cap, .int .i64 (at_ : Int), .int .i64 (n : Int)] w (KdT w n (0, 0)) := by
  by_cases hl : xs.length ≤ at_
  · have g : ((xs.length : Int) ≤ (at_ : Int)) = True := eq_true (by omega)
    go_enter Tryz.func85, Tryz.ntmps85
    go_wp2
    exact bodyPost_ret (results_tmp3 rfl _ _ _) rfl ⟨0, by omega, by omega, rfl, Below.refl _ _⟩
  · obtain rfl : n = 0 := by omega
    have g : ((xs.length : Int) ≤ (at_ : Int)) = False := eq_false (by omega)
    go_enter Tryz.func85, Tryz.ntmps85
    go_wp2
    exact bodyPost_ret (results_tmp3 rfl _ _ _) rfl ⟨0, by omega, by omega, rfl, Below.refl _ _⟩
theorem rkd_leaf {xs : List Pt} {n at_ : Nat} (h : at_ < xs.length) (hm : mayP xs[at_] = true) (hk : xs[at_].kd = 1 ∨ xs[at_].kd = 2 ∨ xs[at_].kd = 3) : rkd xs (n + 1) at_ = (if xs[at_].kd = 1 then 1 else if xs[at_].kd = 2 then 2 else if xs[at_].fl < 4 then 1 else 2, at_ + 1) := by
  rw [rkd, List.getElem?_eq_getElem h]
  dsimp only
  rw [if_neg (by rw [hm]; simp)]
  rcases hk with e | e | e
  · simp [e]
  · simp [e]
  · simp [e]
    split <;> rfl
theorem rkd_no {xs : List Pt} {n at_ : Nat} (h : at_ < xs.length) (hm : mayP xs[at_] = false) : rkd xs (n + 1) at_ = (0, 0) := by
  rw [rkd, List.getElem?_eq_getElem h]
  dsimp only
  rw [if_pos hm]
theorem rkd_op {xs : List Pt} {n at_ : Nat} (h : at_ < xs.length) (hm : mayP xs[at_] = true) (hk : xs[at_].kd ≠ 1 ∧ xs[at_].kd ≠ 2 ∧ xs[at_].kd ≠ 3) : rkd xs (n + 1) at_ = if (rkd xs n (at_ + 1)).1 ≠ 0 ∧ xs[at_].kd ≠ 13 then (if (rkd xs n (rkd xs n (at_ + 1)).2).1 = 0 then (0, 0) else (opK xs[at_].kd (rkd xs n (at_ + 1)).1 (rkd xs n (rkd xs n (at_ + 1)).2).1, (rkd xs n (rkd xs n (at_ + 1)).2).2)) else (opK xs[at_].kd (rkd xs n (at_ + 1)).1 0, (rkd xs n (at_ + 1)).2) := by
  rw [rkd, List.getElem?_eq_getElem h]
  dsimp only
  rw [if_neg (by rw [hm]; simp), if_neg hk.1, if_neg hk.2.1, if_neg hk.2.2]
set_option maxHeartbeats 4000000 in
set_option maxRecDepth 100000 in
theorem rKind_step (ad : Option Addr) (cap : Nat) (xs : List Pt) (hx : xs.length ≤ 200) (hs : ∀ p ∈ xs, p.s.size ≤ 140737488351232 ∧ p.st.size ≤ 9223372036854775807) (n : Nat) (hn : n ≤ 100) (IH : KdOK ad cap xs n) (at_ : Nat) (hat : at_ < xs.length) (w : World) (hA : PtsAt w ad xs) :
    Calls Tryz.prog 85 #[.slice ad xs.length cap, .int .i64 (at_ : Int), .int .i64 ((n + 1 : Nat) : Int)] w (KdT w (n + 1) (rkd xs (n + 1) at_)) := by
  obtain ⟨sz1, sz2⟩ := hs xs[at_] (List.getElem_mem _)
  have MY := hide (rMay_any xs[at_] w sz1 sz2)
  obtain ⟨b, off, rfl, hbl, x0, x1, x2, x3, x4⟩ := hA.at at_ hat
  have HL : Hid (∀ W, Below w.heap.size w W → (W.cell? ⟨b, off + at_ * 5, none⟩ = some (.int .i64 xs[at_].kd) ∧ W.cell? ⟨b, off + at_ * 5 + 1, none⟩ = some (.int .i64 xs[at_].n) ∧ W.cell? ⟨b, off + at_ * 5 + 2, none⟩ = some (.string xs[at_].s) ∧ W.cell? ⟨b, off + at_ * 5 + 3, none⟩ = some (.string xs[at_].st) ∧ W.cell? ⟨b, off + at_ * 5 + 4, none⟩ = some (.int .i64 xs[at_].fl)) ∧ Hid (PtsAt W (some ⟨b, off, none⟩) xs)) := hide (fun W hb => ⟨⟨(Kp.ofBelow hb).cell x0 (by simp), (Kp.ofBelow hb).cell x1 (by simp), (Kp.ofBelow hb).cell x2 (by simp), (Kp.ofBelow hb).cell x3 (by simp), (Kp.ofBelow hb).cell x4 (by simp)⟩, hide (hA.kp (Kp.ofBelow hb))⟩)
  have HNO := hide (fun hm => rkd_no (n := n) hat hm)
  have HLF := hide (fun hm hk => rkd_leaf (n := n) hat hm hk)
  have HOP := hide (fun hm hk => rkd_op (n := n) hat hm hk)
  have HRL := hide (rkd_le xs n)
  have HIH := hide IH
  obtain ⟨RK, hRK⟩ : ∃ RK, rkd xs (n + 1) at_ = RK := ⟨_, rfl⟩
  rw [hRK] at HNO HLF HOP ⊢
  have g0 : ((xs.length : Int) ≤ (at_ : Int)) = False := eq_false (by omega)
  have g1 : (((n : Int) + 1) == 0) = false := beq_eq_false_iff_ne.2 (by omega)
  have hli : (at_ : Int) < (xs.length : Int) := by omega
  have ha1 : Hid ((at_ : Int) + 1 = ((at_ + 1 : Nat) : Int)) := hide (by omega)
  have e2 : (((n + 1 : Nat) : Int)) = (n : Int) + 1 := by omega
  rw [e2]
  clear e2
  clear hA hRK IH hs sz1 sz2
  generalize xs[at_] = p at *
  obtain ⟨pk, pn, ps, pt, pf⟩ := p
  unfold Pt.v at MY
  dsimp only at *
  cases hm : mayP ⟨pk, pn, ps, pt, pf⟩ with
  | false =>
    obtain rfl := unhide HNO hm
    rw [hm] at MY
    clear HNO HLF HOP hm HIH HL
    go_enter Tryz.func85, Tryz.ntmps85
    go_wp2_with fail
    refine (unhide MY).mono ?_
    rintro e w1 ⟨rfl, hb1⟩
    clear MY
    go_wp2
    exact bodyPost_ret (results_tmp3 rfl _ _ _) rfl ⟨0, by omega, by omega, rfl, hb1⟩
  | true =>
    rw [hm] at MY
    have HLF2 := hide (unhide HLF hm)
    have HOP2 := hide (unhide HOP hm)
    clear HNO HLF HOP hm
    by_cases hleaf : pk = 1 ∨ pk = 2 ∨ pk = 3
    · have hR := unhide HLF2 hleaf
      have HD : Hid (∀ W, Below w.heap.size w W → KdT w (n + 1) RK (.returned (.tuple #[.int .i64 (if pk = 1 then 1 else if pk = 2 then 2 else if pf < 4 then 1 else 2), .int .i64 ((at_ + 1 : Nat) : Int), .int .i64 1])) W) := hide (fun W hb => ⟨1, by omega, by omega, by rw [hR], hb⟩)
      rw [← unhide ha1] at HD
      clear HLF2 HOP2 HIH hR
      rcases hleaf with rfl | rfl | rfl
      · rw [if_pos rfl] at HD
        go_enter Tryz.func85, Tryz.ntmps85
        go_wp2_with fail
        refine (unhide MY).mono ?_
        rintro e w1 ⟨rfl, hb1⟩
        obtain ⟨⟨y0, y1, y2, y3, y4⟩, _⟩ := unhide HL w1 hb1
        have HB := hide (hb1.alloc hb1.size (.cells #[.int .i64 1, .int .i64 pn, .string ps, .string pt, .int .i64 pf] 86))
        clear MY hb1 HL x0 x1 x2 x3 x4
        go_wp2
        refine bodyPost_ret (results_tmp3 rfl _ _ _) rfl ?_
        exact unhide HD _ (unhide HB)
      · rw [if_neg (by decide), if_pos rfl] at HD
        go_enter Tryz.func85, Tryz.ntmps85
        go_wp2_with fail
        refine (unhide MY).mono ?_
        rintro e w1 ⟨rfl, hb1⟩
        obtain ⟨⟨y0, y1, y2, y3, y4⟩, _⟩ := unhide HL w1 hb1
        have HB := hide (hb1.alloc hb1.size (.cells #[.int .i64 2, .int .i64 pn, .string ps, .string pt, .int .i64 pf] 86))
        clear MY hb1 HL x0 x1 x2 x3 x4
        go_wp2
        refine bodyPost_ret (results_tmp3 rfl _ _ _) rfl ?_
        exact unhide HD _ (unhide HB)
      · rw [if_neg (by decide), if_neg (by decide)] at HD
        by_cases hf : pf < 4
        · have gf : (pf < 4) = True := eq_true hf
          rw [if_pos hf] at HD
          go_enter Tryz.func85, Tryz.ntmps85
          go_wp2_with fail
          refine (unhide MY).mono ?_
          rintro e w1 ⟨rfl, hb1⟩
          obtain ⟨⟨y0, y1, y2, y3, y4⟩, _⟩ := unhide HL w1 hb1
          have HB := hide (hb1.alloc hb1.size (.cells #[.int .i64 3, .int .i64 pn, .string ps, .string pt, .int .i64 pf] 86))
          clear MY hb1 HL x0 x1 x2 x3 x4
          go_wp2
          refine bodyPost_ret (results_tmp3 rfl _ _ _) rfl ?_
          exact unhide HD _ (unhide HB)
        · have gf : (pf < 4) = False := eq_false hf
          rw [if_neg hf] at HD
          go_enter Tryz.func85, Tryz.ntmps85
          go_wp2_with fail
          refine (unhide MY).mono ?_
          rintro e w1 ⟨rfl, hb1⟩
          obtain ⟨⟨y0, y1, y2, y3, y4⟩, _⟩ := unhide HL w1 hb1
          have HB := hide (hb1.alloc hb1.size (.cells #[.int .i64 3, .int .i64 pn, .string ps, .string pt, .int .i64 pf] 86))
          clear MY hb1 HL x0 x1 x2 x3 x4
          go_wp2
          refine bodyPost_ret (results_tmp3 rfl _ _ _) rfl ?_
          exact unhide HD _ (unhide HB)
    · have hop : pk ≠ 1 ∧ pk ≠ 2 ∧ pk ≠ 3 := ⟨fun h => hleaf (Or.inl h), fun h => hleaf (Or.inr (Or.inl h)), fun h => hleaf (Or.inr (Or.inr h))⟩
      have hR := unhide HOP2 hop
      have k1 : (pk == 1) = false := beq_eq_false_iff_ne.2 hop.1
      have k2 : (pk == 2) = false := beq_eq_false_iff_ne.2 hop.2.1
      have k3 : (pk == 3) = false := beq_eq_false_iff_ne.2 hop.2.2
      have IH1 := hide (fun W (hA : PtsAt W (some ⟨b, off, none⟩) xs) => unhide HIH (at_ + 1) W (by omega) hA)
      rw [← unhide ha1] at IH1
      have IH2 := hide (fun W (hA : PtsAt W (some ⟨b, off, none⟩) xs) => unhide HIH (rkd xs n (at_ + 1)).2 W (unhide HRL _) hA)
      have hR2 := unhide HRL (at_ + 1)
      have hR3 := unhide HRL (rkd xs n (at_ + 1)).2
      clear HLF2 HOP2 HIH hleaf hop HRL
      generalize rkd xs n (rkd xs n (at_ + 1)).2 = r2 at *
      generalize rkd xs n (at_ + 1) = r1 at *
      obtain ⟨A, E⟩ := r1
      obtain ⟨K, F⟩ := r2
      unfold KdT at IH1 IH2
      dsimp only at *
      have HRK := hide hR
      clear hR
      go_enter Tryz.func85, Tryz.ntmps85
      go_wp2_with fail
      refine (unhide MY).mono ?_
      rintro e w1 ⟨rfl, hb1⟩
      obtain ⟨⟨y0, y1, y2, y3, y4⟩, _⟩ := unhide HL w1 hb1
      have hb2 := hb1.alloc hb1.size (.cells #[.int .i64 pk, .int .i64 pn, .string ps, .string pt, .int .i64 pf] 86)
      obtain ⟨_, HA2⟩ := unhide HL _ hb2
      have bx : CBox w1.heap.size #[.int .i64 pk, .int .i64 pn, .string ps, .string pt, .int .i64 pf] 86 (w1.alloc (.cells #[.int .i64 pk, .int .i64 pn, .string ps, .string pt, .int .i64 pf] 86)) := CBox.new w1 _ _
      have C1 := hide (unhide IH1 _ (unhide HA2))
      have HB2 := hide hb2
      have HBX := hide bx
      clear MY hb1 hb2 bx IH1 x0 x1 x2 x3 x4 HA2
      go_wp2_with fail
      refine (unhide C1).mono ?_
      rintro e w3 ⟨D, hD0, hD1, rfl, hb3⟩
      have HB3 := hide ((unhide HB2).trans (hb3.mono (unhide HB2).size))
      have z0 := ((unhide HBX).kp (Kp.ofBelow hb3) (by simp)).cell (i := 0) (v := .int .i64 pk) rfl
      have HBX3 := hide ((unhide HBX).kp (Kp.ofBelow hb3) (by simp))
      obtain ⟨_, HA3⟩ := unhide HL w3 (unhide HB3)
      clear C1 hb3 HB2 HBX y0 y1 y2 y3 y4
      by_cases hA0 : A = 0
      · subst hA0
        have hR : RK = (opK pk 0 0, E) := by rw [unhide HRK, if_neg (by simp)]
        have OF := hide (fun W => rOf_any pk 0 0 W)
        clear IH2 HL HA3
        go_wp2_with fail
        refine (unhide OF _).mono ?_
        rintro e w4 ⟨rfl, rfl⟩
        clear OF
        go_wp2
        refine bodyPost_ret (results_tmp3 rfl _ _ _) rfl ?_
        exact ⟨D + 1, by omega, by omega, by rw [hR]; rfl, unhide HB3⟩
      · have gA : (A == 0) = false := beq_eq_false_iff_ne.2 hA0
        by_cases h13 : pk = 13
        · subst h13
          have hR : RK = (opK 13 A 0, E) := by rw [unhide HRK, if_neg (by simp)]
          have OF := hide (fun W => rOf_any 13 A 0 W)
          clear IH2 HL HA3 k1 k2 k3
          go_wp2_with fail
          refine (unhide OF _).mono ?_
          rintro e w4 ⟨rfl, rfl⟩
          clear OF
          go_wp2
          refine bodyPost_ret (results_tmp3 rfl _ _ _) rfl ?_
          exact ⟨D + 1, by omega, by omega, by rw [hR]; rfl, unhide HB3⟩
        · have g13 : (pk == 13) = false := beq_eq_false_iff_ne.2 h13
          have g13' : (pk != 13) = true := by simpa using h13
          have gA' : (A != 0) = true := by simpa using hA0
          have C2 := hide (unhide IH2 _ (unhide HA3))
          clear IH2 HA3
          go_wp2_with fail
          refine (unhide C2).mono ?_
          rintro e w5 ⟨D2, hD20, hD21, rfl, hb5⟩
          have HB5 := hide ((unhide HB3).trans (hb5.mono (unhide HB3).size))
          have z1 := ((unhide HBX3).kp (Kp.ofBelow hb5) (by simp)).cell (i := 0) (v := .int .i64 pk) rfl
          clear C2 hb5 HB3 HBX3 z0 HL
          by_cases hK0 : K = 0
          · subst hK0
            have hR : RK = (0, 0) := by rw [unhide HRK, if_pos ⟨hA0, h13⟩, if_pos rfl]
            go_wp2
            refine bodyPost_ret (results_tmp3 rfl _ _ _) rfl ?_
            exact ⟨0, by omega, by omega, by rw [hR]; rfl, unhide HB5⟩
          · have gK : (K == 0) = false := beq_eq_false_iff_ne.2 hK0
            have hR : RK = (opK pk A K, F) := by rw [unhide HRK, if_pos ⟨hA0, h13⟩, if_neg hK0]
            have OF := hide (fun W => rOf_any pk A K W)
            go_wp2_with fail
            refine (unhide OF _).mono ?_
            rintro e w6 ⟨rfl, rfl⟩
            clear OF
            go_wp2
            refine bodyPost_ret (results_tmp3 rfl _ _ _) rfl ?_
            exact ⟨max D D2 + 1, by omega, by omega, by rw [hR]; rfl, unhide HB5⟩
theorem rKind_any (ad : Option Addr) (cap : Nat) (xs : List Pt) (hx : xs.length ≤ 200) (hs : ∀ p ∈ xs, p.s.size ≤ 140737488351232 ∧ p.st.size ≤ 9223372036854775807) (n : Nat) (hn : n ≤ 100) : KdOK ad cap xs n := by
  induction n with
  | zero => intro at_ w _ _; exact rKind_end ad cap xs 0 at_ w (Or.inl rfl)
  | succ n ih =>
    intro at_ w hat hA
    rcases Nat.lt_or_ge at_ xs.length with h | h
    · exact rKind_step ad cap xs hx hs n (by omega) (ih (by omega)) at_ h w hA
    · have e : rkd xs (n + 1) at_ = (0, 0) := by rw [rkd, List.getElem?_eq_none h]
      rw [e]
      exact rKind_end ad cap xs (n + 1) at_ w (Or.inr h)
end Go.Proofs.YtjijhefmbmdbeaaGreatDoor
namespace Go.Proofs.YtjijhefmbmdbeaaGreatDoor
open Go.RowKit Go.Shelf

theorem at_mid (pre : List Pt) (p : Pt) (r : List Pt) : (pre ++ p :: r)[pre.length]? = some p := by simp
theorem may_bare {p : Pt} (h : 4 ≤ p.kd ∧ p.kd ≤ 13) (hb : bareP p = true) : mayP p = true := by
  rw [may_op p ⟨by omega, by omega, by omega⟩, hb, decide_eq_true (show 1 ≤ p.kd by omega), decide_eq_true h.2]
  rfl
theorem lfK_kd {p : Pt} (h : lfK p ≠ 0) : (p.kd = 1 ∨ p.kd = 2 ∨ p.kd = 3) ∧ lfK p = (if p.kd = 1 then 1 else if p.kd = 2 then 2 else if p.fl < 4 then 1 else 2) := by
  have h' := h
  unfold lfK at h ⊢
  split at h
  · rename_i e
    rw [if_pos e]
    exact ⟨Or.inl e.1, by rw [if_pos e.1]⟩
  · rename_i e1
    rw [if_neg e1]
    split at h
    · rename_i e
      rw [if_pos e]
      exact ⟨Or.inr (Or.inl e.1), by rw [if_neg (by omega), if_pos e.1]⟩
    · rename_i e2
      rw [if_neg e2]
      split at h
      · rename_i e
        rw [if_pos e]
        refine ⟨Or.inr (Or.inr e.1), ?_⟩
        rw [if_neg (by omega), if_neg (by omega)]
        have := fldK_ne h
        unfold fldK
        split
        · rw [if_neg (by omega)]
        · rw [if_pos (by omega), if_pos (by omega)]
      · exact absurd rfl h
theorem may_leaf {p : Pt} (h : lfK p ≠ 0) : mayP p = true := by
  unfold mayP
  rw [if_pos (lfK_kd h).1, decide_eq_true h]
/-- A tree that may be is told as it is. -/
theorem rkd_tree (t : Ex) : t.wf → t.kd ≠ 0 → ∀ (n : Nat), t.dn ≤ n → ∀ (pre rest : List Pt), rkd (pre ++ (t.flat ++ rest)) n pre.length = (t.kd, pre.length + t.flat.length) := by
  induction t with
  | lf p =>
    intro hw hk n hn pre rest
    have hl : lfK p ≠ 0 := hk
    obtain ⟨m, rfl⟩ : ∃ m, n = m + 1 := ⟨n - 1, by simp only [Ex.dn] at hn; omega⟩
    obtain ⟨h1, h2⟩ := lfK_kd hl
    rw [Ex.flat, List.singleton_append, rkd, at_mid]
    dsimp only
    rw [if_neg (by rw [may_leaf hl]; simp)]
    have e : (Ex.lf p).kd = lfK p := rfl
    rw [e, h2]
    rcases h1 with h | h | h
    · simp [h]
    · simp [h]
    · simp [h]
      split <;> rfl
  | un p a ih =>
    intro hw hk n hn pre rest
    obtain ⟨m, rfl⟩ : ∃ m, n = m + 1 := ⟨n - 1, by simp only [Ex.dn] at hn; omega⟩
    have h13 := sds_one hw.1
    have e : (Ex.un p a).kd = if bareP p then opK p.kd a.kd 0 else 0 := rfl
    have hb : bareP p = true := by
      cases hb : bareP p with
      | true => rfl
      | false => rw [e, hb] at hk; exact absurd rfl hk
    rw [e, hb, if_pos rfl] at hk ⊢
    have ha : a.kd ≠ 0 := fun h => hk (by rw [h]; exact opK_zero _ _)
    have := ih hw.2 ha m (by simp only [Ex.dn] at hn; omega) (pre ++ [p]) rest
    rw [List.append_assoc, List.singleton_append, List.length_append, List.length_singleton] at this
    rw [Ex.flat, List.cons_append, rkd, at_mid]
    dsimp only
    rw [if_neg (by rw [may_bare (by omega) hb]; simp), if_neg (by omega), if_neg (by omega), if_neg (by omega), this]
    dsimp only
    rw [if_neg (by simp [h13])]
    simp only [List.length_cons, Prod.mk.injEq, true_and]
    omega
  | bi p a b iha ihb =>
    intro hw hk n hn pre rest
    obtain ⟨m, rfl⟩ : ∃ m, n = m + 1 := ⟨n - 1, by simp only [Ex.dn] at hn; omega⟩
    have h2 := sds_two hw.1
    have e : (Ex.bi p a b).kd = if bareP p then opK p.kd a.kd b.kd else 0 := rfl
    have hb : bareP p = true := by
      cases hb : bareP p with
      | true => rfl
      | false => rw [e, hb] at hk; exact absurd rfl hk
    rw [e, hb, if_pos rfl] at hk ⊢
    have ha : a.kd ≠ 0 := fun h => hk (by rw [h]; exact opK_zero _ _)
    have hbb : b.kd ≠ 0 := fun h => hk (by rw [h]; exact opK_zero2 _ _ (by omega))
    have t1 := iha hw.2.1 ha m (by simp only [Ex.dn] at hn; omega) (pre ++ [p]) (b.flat ++ rest)
    have t2 := ihb hw.2.2 hbb m (by simp only [Ex.dn] at hn; omega) (pre ++ p :: a.flat) rest
    rw [List.append_assoc, List.singleton_append, List.length_append, List.length_singleton] at t1
    rw [List.append_assoc, List.cons_append, List.length_append, List.length_cons] at t2
    have t1' : rkd (pre ++ p :: (a.flat ++ (b.flat ++ rest))) m (pre.length + 1) = (a.kd, pre.length + (a.flat.length + 1)) := by rw [t1]; congr 1; omega
    rw [Ex.flat, List.cons_append, List.append_assoc, rkd, at_mid]
    dsimp only
    rw [if_neg (by rw [may_bare (by omega) hb]; simp), if_neg (by omega), if_neg (by omega), if_neg (by omega), t1']
    dsimp only
    rw [if_pos ⟨ha, by omega⟩, t2]
    dsimp only
    rw [if_neg hbb]
    simp only [List.length_cons, List.length_append, Prod.mk.injEq, true_and]
    omega
/-- What is told of is a tree that may be. -/
theorem rkd_some (xs : List Pt) (n : Nat) : ∀ (at_ : Nat) (k : Int) (E : Nat), rkd xs n at_ = (k, E) → k ≠ 0 → ∃ t : Ex, t.wf ∧ t.kd = k ∧ t.dn ≤ n ∧ E = at_ + t.flat.length ∧ xs.drop at_ = t.flat ++ xs.drop E := by
  induction n with
  | zero => intro at_ k E h hk; rw [rkd] at h; cases h; exact absurd rfl hk
  | succ n ih =>
    intro at_ k E h hk
    rw [rkd] at h
    cases hp : xs[at_]? with
    | none => rw [hp] at h; cases h; exact absurd rfl hk
    | some p =>
      obtain ⟨hlt, hpe⟩ := List.getElem?_eq_some_iff.1 hp
      have hd : xs.drop at_ = p :: xs.drop (at_ + 1) := by rw [List.drop_eq_getElem_cons hlt, hpe]
      rw [hp] at h
      dsimp only at h
      split at h
      · cases h; exact absurd rfl hk
      · rename_i hm
        have hm : mayP p = true := by simpa using hm
        by_cases hlf : p.kd = 1 ∨ p.kd = 2 ∨ p.kd = 3
        · have hl : lfK p ≠ 0 := by
            unfold mayP at hm
            rw [if_pos hlf] at hm
            exact of_decide_eq_true hm
          have hv := (lfK_kd hl).2
          have hs : sds p.kd = 0 := by unfold sds; rw [if_neg (by omega), if_neg (by omega)]
          refine ⟨.lf p, hs, ?_, by simp [Ex.dn], ?_, ?_⟩
          · show lfK p = k
            rw [hv]
            rcases hlf with e | e | e
            · rw [if_pos e] at h ⊢; cases h; rfl
            · rw [if_neg (by omega), if_pos e] at h ⊢; cases h; rfl
            · rw [if_neg (by omega), if_neg (by omega)] at h ⊢
              rw [if_pos e] at h
              split at h
              · rename_i hf; rw [if_pos hf]; cases h; rfl
              · rename_i hf; rw [if_neg hf]; cases h; rfl
          · simp only [Ex.flat, List.length_singleton]
            rcases hlf with e | e | e
            · rw [if_pos e] at h; cases h; rfl
            · rw [if_neg (by omega), if_pos e] at h; cases h; rfl
            · rw [if_neg (by omega), if_neg (by omega), if_pos e] at h
              split at h <;> (cases h; rfl)
          · have hE : E = at_ + 1 := by
              rcases hlf with e | e | e
              · rw [if_pos e] at h; cases h; rfl
              · rw [if_neg (by omega), if_pos e] at h; cases h; rfl
              · rw [if_neg (by omega), if_neg (by omega), if_pos e] at h
                split at h <;> (cases h; rfl)
            rw [hE, hd]
            rfl
        · have hop : p.kd ≠ 1 ∧ p.kd ≠ 2 ∧ p.kd ≠ 3 := ⟨fun e => hlf (Or.inl e), fun e => hlf (Or.inr (Or.inl e)), fun e => hlf (Or.inr (Or.inr e))⟩
          rw [may_op p hop] at hm
          simp only [Bool.and_eq_true, decide_eq_true_eq] at hm
          obtain ⟨m1, m2, hb⟩ := hm
          have hkd : 4 ≤ p.kd ∧ p.kd ≤ 13 := by omega
          rw [if_neg hop.1, if_neg hop.2.1, if_neg hop.2.2] at h
          cases hr : rkd xs n (at_ + 1) with
          | mk A E1 =>
            rw [hr] at h
            dsimp only at h
            split at h
            · rename_i hc
              obtain ⟨ta, a1, a2, a3, a4, a5⟩ := ih (at_ + 1) A E1 hr hc.1
              cases hr2 : rkd xs n E1 with
              | mk K F =>
                rw [hr2] at h
                dsimp only at h
                split at h
                · cases h; exact absurd rfl hk
                · rename_i hK
                  obtain ⟨tb, b1, b2, b3, b4, b5⟩ := ih E1 K F hr2 hK
                  cases h
                  have hs : sds p.kd = 2 := by unfold sds; rw [if_pos (by omega)]
                  refine ⟨.bi p ta tb, ⟨hs, a1, b1⟩, ?_, ?_, ?_, ?_⟩
                  · show (if bareP p then opK p.kd ta.kd tb.kd else 0) = _
                    rw [if_pos hb, a2, b2]
                  · simp only [Ex.dn]; omega
                  · simp only [Ex.flat, List.length_cons, List.length_append]; omega
                  · rw [hd, a5, b5]
                    simp [Ex.flat]
            · rename_i hc
              cases h
              have hA : A ≠ 0 := fun e => hk (by rw [e]; exact opK_zero _ _)
              have h13 : p.kd = 13 := by
                by_cases e : p.kd = 13
                · exact e
                · exact absurd ⟨hA, e⟩ hc
              obtain ⟨ta, a1, a2, a3, a4, a5⟩ := ih (at_ + 1) A E hr hA
              have hs : sds p.kd = 1 := by unfold sds; rw [if_neg (by omega), if_pos h13]
              refine ⟨.un p ta, ⟨hs, a1⟩, ?_, ?_, ?_, ?_⟩
              · show (if bareP p then opK p.kd ta.kd 0 else 0) = _
                rw [if_pos hb, a2]
              · simp only [Ex.dn]; omega
              · simp only [Ex.flat, List.length_cons]; omega
              · rw [hd, a5]
                simp [Ex.flat]
/-- The document's Check, plainly. -/
theorem rkd_ck {xs : List Pt} (hl : xs.length ≤ 200) : ckK xs = if (rkd xs 32 0).1 = 0 ∨ (rkd xs 32 0).2 ≠ xs.length then 0 else (rkd xs 32 0).1 := by
  cases hr : rkd xs 32 0 with
  | mk k E =>
    dsimp only
    split
    · rename_i h
      cases Classical.em (ckK xs = 0) with
      | inl e => exact e
      | inr e =>
        exfalso
        obtain ⟨t, t1, _, t3, t4, _, t6⟩ := ckK_leaves e
        have hk : t.kd ≠ 0 := by rw [t6]; exact e
        have := rkd_tree t t1 hk 32 t4 [] []
        rw [List.nil_append, List.append_nil, ← t3, List.length_nil, hr] at this
        cases this
        rw [Nat.zero_add] at h
        rcases h with h | h
        · exact hk h
        · exact h rfl
    · rename_i h
      have hk : k ≠ 0 := fun e => h (Or.inl e)
      have hE : E = xs.length := by
        by_cases e : E = xs.length
        · exact e
        · exact absurd (Or.inr e) h
      obtain ⟨t, t1, t2, t3, _, t5⟩ := rkd_some xs 32 0 k E hr hk
      rw [hE, List.drop_length, List.append_nil, List.drop_zero] at t5
      rw [t5, ckK_flat t t1, ← t5, if_neg (by omega), if_neg (by rw [t.dp_dn]; omega), t2]
set_option maxHeartbeats 1000000 in
set_option maxRecDepth 100000 in
theorem rCheck_any (ad : Option Addr) (cap : Nat) (xs : List Pt) (w : World) (hA : PtsAt w ad xs) (hs : ∀ p ∈ xs, p.s.size ≤ 140737488351232 ∧ p.st.size ≤ 9223372036854775807) :
    Calls Tryz.prog 58 #[.slice ad xs.length cap] w fun e w' => e = .returned (.tuple #[.int .i64 (ckK xs), .int .i64 (if ckK xs = 0 then 110 else 0)]) ∧ Below w.heap.size w w' := by
  by_cases hl : xs.length ≤ 200
  · have KD := hide (rKind_any ad cap xs hl hs 32 (by omega) 0 w (Nat.zero_le _) hA)
    have hck := rkd_ck hl
    have hle := rkd_le xs 32 0
    have g : ((200 : Int) < (xs.length : Int)) = False := eq_false (by omega)
    unfold KdT at KD
    obtain ⟨C, hC⟩ : ∃ C, ckK xs = C := ⟨_, rfl⟩
    rw [hC] at hck ⊢
    clear hA hs hC
    generalize rkd xs 32 0 = r at *
    obtain ⟨K, E⟩ := r
    dsimp only at *
    have HCK := hide hck
    clear hck
    by_cases hk : K = 0
    · subst hk
      obtain rfl : C = 0 := (unhide HCK).trans (if_pos (Or.inl rfl))
      clear HCK
      go_enter Tryz.func58, Tryz.ntmps58
      go_wp2_with fail
      refine (unhide KD).mono ?_
      rintro e w1 ⟨D, _, _, rfl, hb⟩
      clear KD
      go_wp2
      exact bodyPost_ret (results_tmp2 rfl _ _ _) rfl ⟨rfl, hb⟩
    · have gk : (K == 0) = false := beq_eq_false_iff_ne.2 hk
      by_cases hE : E = xs.length
      · obtain rfl : C = K := (unhide HCK).trans (if_neg (by rintro (h | h); exact hk h; exact h hE))
        have gE : ((E : Int) == (xs.length : Int)) = true := by rw [hE]; exact beq_self_eq_true _
        rw [if_neg hk]
        clear HCK
        go_enter Tryz.func58, Tryz.ntmps58
        go_wp2_with fail
        refine (unhide KD).mono ?_
        rintro e w1 ⟨D, _, _, rfl, hb⟩
        clear KD
        go_wp2
        exact bodyPost_ret (results_tmp2 rfl _ _ _) rfl ⟨rfl, hb⟩
      · obtain rfl : C = 0 := (unhide HCK).trans (if_pos (Or.inr hE))
        have gE : ((E : Int) == (xs.length : Int)) = false := beq_eq_false_iff_ne.2 (by omega)
        clear HCK
        go_enter Tryz.func58, Tryz.ntmps58
        go_wp2_with fail
        refine (unhide KD).mono ?_
        rintro e w1 ⟨D, _, _, rfl, hb⟩
        clear KD
        go_wp2
        exact bodyPost_ret (results_tmp2 rfl _ _ _) rfl ⟨rfl, hb⟩
  · have hk : ckK xs = 0 := by unfold ckK; rw [if_pos (by omega)]
    rw [hk, if_pos rfl]
    have g : ((200 : Int) < (xs.length : Int)) = True := eq_true (by omega)
    clear hA hs hk
    go_enter Tryz.func58, Tryz.ntmps58
    go_wp2
    exact bodyPost_ret (results_tmp2 rfl _ _ _) rfl ⟨rfl, Below.refl _ _⟩
end Go.Proofs.YtjijhefmbmdbeaaGreatDoor
