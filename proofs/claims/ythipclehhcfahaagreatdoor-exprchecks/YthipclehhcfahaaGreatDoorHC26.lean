/-
  Check: what an expression is, and whether it may be.
  The document's answer: the kind of the expression that begins at a place; Check.
-/
import Derived.Test.YthipclehhcfahaaGreatDoorHC25
import Derived.Test.YthipclehhcfahaaGreatDoorHC24
namespace Go.Proofs.YthipclehhcfahaaGreatDoor
open Go.RowKit Go.Shelf

theorem Ex.dn_flat (t : Ex) : t.dn ≤ t.flat.length := by
  induction t with
  | lf p => simp [Ex.dn, Ex.flat]
  | un p a ih => simp only [Ex.dn, Ex.flat, List.length_cons]; omega
  | bi p a b iha ihb => simp only [Ex.dn, Ex.flat, List.length_cons, List.length_append]; omega
theorem Ex.sh_ok (t : Ex) (h : t.flat.length ≤ 200) : (t.val shp).ok := by
  have h1 := t.kd_range
  have h2 := t.dp_pos
  have h3 := t.dp_dn
  have h4 := t.dn_flat
  exact ⟨h1, by show 0 ≤ t.dp; omega, by show t.dp ≤ _; omega⟩
theorem shapeOf_each {xs : List Pt} (hl : xs.length ≤ 200) {w : World} (hT : TbE w) (hfit : ∀ p ∈ xs, p.fit) (p : Pt) (ts : List Ex) (W : World) (hp : p ∈ xs) (_ : ∀ t ∈ ts, t.wf ∧ ∀ q ∈ t.flat, q ∈ xs) (hn : (ts.flatMap Ex.flat).length + 1 ≤ xs.length) (hs : ts.length = sds p.kd) (hb : Below w.heap.size w W) :
    Calls Tryz.prog 26 #[p.v, .agg (rowC p.kd), .agg (sdCS (ts.map (Ex.val shp)))] W fun e w' => e = .returned (.agg (shE (shp p (ts.map (Ex.val shp)))).toArray) ∧ Below W.heap.size W w' := by
  have hW := hT.below hb hT.low
  have z : Sh.ok ⟨0, 0⟩ := ⟨⟨by decide, by decide⟩, by decide, by decide⟩
  have h2 := sds_le p.kd
  match ts, hs with
  | [], hs =>
    have := shapeOf_any p ⟨0, 0⟩ ⟨0, 0⟩ W hW (hfit p hp) z z (fun _ => rfl)
    rw [← hs] at this
    exact this
  | [a], hs =>
    have := shapeOf_any p (a.val shp) ⟨0, 0⟩ W hW (hfit p hp) (a.sh_ok (by simp at hn; omega)) z (fun _ => rfl)
    rw [← hs] at this
    exact this
  | [a, b], hs =>
    have := shapeOf_any p (a.val shp) (b.val shp) W hW (hfit p hp) (a.sh_ok (by simp at hn; omega)) (b.sh_ok (by simp at hn; omega)) (fun e => by rw [e] at hs; simp at hs)
    rw [← hs] at this
    exact this
  | a :: b :: c :: r, hs => simp at hs; omega
theorem fold_shapes (ad : Option Addr) (cap : Nat) (xs : List Pt) (hsz : xs.length ≤ 200) (w : World) (hc : PtsAt w ad xs) (hT : TbE w) (hfit : ∀ p ∈ xs, p.fit) :
    Calls Tryz.prog 25 #[.slice ad xs.length cap, .func (.func 26) #[] #[]] w fun e w' => e = .returned (foRS (fdX shp xs)) ∧ Below w.heap.size w w' :=
  callsIn_wide.1 (foldS_in 26 ad cap xs hsz w (PtsLow.of hc) (enters_of Tryz.func26 (by kernel_rfl) rfl) (shapeOf_each hsz hT hfit))
theorem fdX_range {xs : List Pt} {s : Sh} (h : fdX shp xs = some s) : (0 ≤ s.kd ∧ s.kd ≤ 3) := by
  obtain ⟨t, _, _, rfl⟩ := fdX_some h
  exact t.kd_range
set_option maxRecDepth 100000 in
set_option maxHeartbeats 1000000 in
theorem check_any (ad : Option Addr) (cap : Nat) (xs : List Pt) (w : World) (hc : PtsAt w ad xs) (hT : TbE w) (hfit : ∀ p ∈ xs, p.fit) :
    Calls Tryz.prog 9 #[.slice ad xs.length cap] w fun e w' => e = .returned (.tuple #[.int .i64 (ckK xs), .int .i64 (if ckK xs = 0 then 110 else 0)]) ∧ Below w.heap.size w w' := by
  by_cases hl : 200 < xs.length
  · have hk : ckK xs = 0 := by unfold ckK; rw [if_pos hl]
    rw [hk, if_pos rfl]
    have h1 : ((200 : Int) < (xs.length : Int)) = True := by simp; omega
    clear hc hT hfit hk hl
    go_enter Tryz.func9, Tryz.ntmps9
    go_wp2
    exact bodyPost_ret (results_tmp2 rfl _ _ _) rfl ⟨rfl, Below.refl _ _⟩
  · have h1 : ((200 : Int) < (xs.length : Int)) = False := by simp; omega
    have F1 := hide (fold_shapes ad cap xs (by omega) w hc hT hfit)
    have hk : ckK xs = match fdX shp xs with | some s => if s.dp > 32 then 0 else s.kd | none => 0 := by unfold ckK; rw [if_neg hl]; rfl
    have hr := fun s => fdX_range (xs := xs) (s := s)
    rw [hk]
    clear hc hT hfit hk
    generalize fdX shp xs = r at *
    have HR := hide hr
    clear hr hl
    go_enter Tryz.func9, Tryz.ntmps9
    go_wp2_with fail
    refine (unhide F1).mono ?_
    rintro e w1 ⟨rfl, hb⟩
    cases r with
    | none =>
      clear F1 HR
      unfold foRS
      dsimp only
      go_wp2
      exact bodyPost_ret (results_tmp2 rfl _ _ _) rfl ⟨rfl, hb.alloc hb.size _⟩
    | some s =>
      obtain ⟨k1, k2⟩ := unhide HR s rfl
      obtain ⟨kd, dp⟩ := s
      dsimp only at k1 k2
      unfold foRS shE
      dsimp only
      by_cases h0 : kd = 0
      · subst h0
        clear F1 HR
        go_wp2
        exact bodyPost_ret (results_tmp2 rfl _ _ _) rfl ⟨rfl, hb.alloc hb.size _⟩
      · by_cases hd : dp > 32
        · have hd2 : ((32 : Int) < dp) = True := by simp; omega
          clear F1 HR
          go_wp2
          exact bodyPost_ret (results_tmp2 rfl _ _ _) rfl ⟨by first | rfl | (dsimp only; rw [if_pos hd, if_pos rfl]; rfl) | (simp [hd]), hb.alloc hb.size _⟩
        · have hd2 : ((32 : Int) < dp) = False := by simp; omega
          clear F1 HR
          go_wp2
          exact bodyPost_ret (results_tmp2 rfl _ _ _) rfl ⟨by first | rfl | (dsimp only; rw [if_neg hd, if_neg h0]; rfl) | (simp [hd, h0]), hb.alloc hb.size _⟩
end Go.Proofs.YthipclehhcfahaaGreatDoor
namespace Go.Proofs.YthipclehhcfahaaGreatDoor
open Go.RowKit Go.Shelf

/-- The kind of the expression that begins at a place, and the place behind, as the document has it. -/
def rkd (xs : List Pt) : Nat → Nat → Int × Nat
  | 0, _ => (0, 0)
  | n + 1, at_ => match xs[at_]? with
    | none => (0, 0)
    | some p => if mayP p = false then (0, 0) else if p.kd = 1 then (1, at_ + 1) else if p.kd = 2 then (2, at_ + 1) else if p.kd = 3 then (if p.fl < 4 then (1, at_ + 1) else (2, at_ + 1))
      else if (rkd xs n (at_ + 1)).1 ≠ 0 ∧ p.kd ≠ 13 then (if (rkd xs n (rkd xs n (at_ + 1)).2).1 = 0 then (0, 0) else (opK p.kd (rkd xs n (at_ + 1)).1 (rkd xs n (rkd xs n (at_ + 1)).2).1, (rkd xs n (rkd xs n (at_ + 1)).2).2))
      else (opK p.kd (rkd xs n (at_ + 1)).1 0, (rkd xs n (at_ + 1)).2)
theorem rkd_le (xs : List Pt) (n : Nat) : ∀ at_, (rkd xs n at_).2 ≤ xs.length := by
  induction n with
  | zero => intro at_; rw [rkd]; exact Nat.zero_le _
  | succ n ih =>
    intro at_
    rw [rkd]
    cases h : xs[at_]? with
    | none => exact Nat.zero_le _
    | some p =>
      have hl := (List.getElem?_eq_some_iff.1 h).1
      dsimp only
      repeat' split
      all_goals first | exact Nat.zero_le _ | exact hl | exact ih _
theorem rkd_kd (xs : List Pt) (n : Nat) (at_ : Nat) : 0 ≤ (rkd xs n at_).1 ∧ (rkd xs n at_).1 ≤ 3 := by
  cases n with
  | zero => rw [rkd]; decide
  | succ n =>
    rw [rkd]
    cases h : xs[at_]? with
    | none => exact ⟨Int.le_refl _, by dsimp only; omega⟩
    | some p =>
      dsimp only
      repeat' split
      all_goals first | (constructor <;> (dsimp only; omega)) | (dsimp only; have := opK_range p.kd (rkd xs n (at_ + 1)).1 0; omega) | (dsimp only; have := opK_range p.kd (rkd xs n (at_ + 1)).1 (rkd xs n (rkd xs n (at_ + 1)).2).1; omega)
/-- What kind leaves. -/
def KdT (w : World) (n : Nat) (r : Int × Nat) (e : Ending) (w' : World) : Prop := ∃ D : Int, 0 ≤ D ∧ D ≤ (n : Int) ∧ e = .returned (.tuple #[.int .i64 r.1, .int .i64 (r.2 : Int), .int .i64 D]) ∧ Below w.heap.size w w'
def KdOK (ad : Option Addr) (cap : Nat) (xs : List Pt) (n : Nat) : Prop := ∀ (at_ : Nat) (w : World), at_ ≤ xs.length → PtsAt w ad xs → Calls Tryz.prog 27 #[.slice ad xs.length cap, .int .i64 (at_ : Int), .int .i64 (n : Int)] w (KdT w n (rkd xs n at_))
set_option maxHeartbeats 1000000 in
set_option maxRecDepth 100000 in
theorem rKind_end (ad : Option Addr) (cap : Nat) (xs : List Pt) (n at_ : Nat) (w : World) (h : n = 0 ∨ xs.length ≤ at_) : Calls Tryz.prog 27 #[.slice ad xs.length cap, .int .i64 (at_ : Int), .int .i64 (n : Int)] w (KdT w n (0, 0)) := by
  by_cases hl : xs.length ≤ at_
  · have g : ((xs.length : Int) ≤ (at_ : Int)) = True := eq_true (by omega)
    go_enter Tryz.func27, Tryz.ntmps27
    go_wp2
    exact bodyPost_ret (results_tmp3 rfl _ _ _) rfl ⟨0, by omega, by omega, rfl, Below.refl _ _⟩
  · obtain rfl : n = 0 := by omega
    have g : ((xs.length : Int) ≤ (at_ : Int)) = False := eq_false (by omega)
    go_enter Tryz.func27, Tryz.ntmps27
    go_wp2
    exact bodyPost_ret (results_tmp3 rfl _ _ _) rfl ⟨0, by omega, by omega, rfl, Below.refl _ _⟩
theorem rkd_leaf {xs : List Pt} {n at_ : Nat} (h : at_ < xs.length) (hm : mayP xs[at_] = true) (hk : xs[at_].kd = 1 ∨ xs[at_].kd = 2 ∨ xs[at_].kd = 3) : rkd xs (n + 1) at_ = (if xs[at_].kd = 1 then 1 else if xs[at_].kd = 2 then 2 else if xs[at_].fl < 4 then 1 else 2, at_ + 1) := by
  rw [rkd, List.getElem?_eq_getElem h]
  dsimp only
  rw [if_neg (by rw [hm]; simp)]
  rcases hk with e | e | e
  · simp [e]
  · simp [e]
  · simp [e]
    split <;> rfl
theorem rkd_no {xs : List Pt} {n at_ : Nat} (h : at_ < xs.length) (hm : mayP xs[at_] = false) : rkd xs (n + 1) at_ = (0, 0) := by
  rw [rkd, List.getElem?_eq_getElem h]
  dsimp only
  rw [if_pos hm]
theorem rkd_op {xs : List Pt} {n at_ : Nat} (h : at_ < xs.length) (hm : mayP xs[at_] = true) (hk : xs[at_].kd ≠ 1 ∧ xs[at_].kd ≠ 2 ∧ xs[at_].kd ≠ 3) : rkd xs (n + 1) at_ = if (rkd xs n (at_ + 1)).1 ≠ 0 ∧ xs[at_].kd ≠ 13 then (if (rkd xs n (rkd xs n (at_ + 1)).2).1 = 0 then (0, 0) else (opK xs[at_].kd (rkd xs n (at_ + 1)).1 (rkd xs n (rkd xs n (at_ + 1)).2).1, (rkd xs n (rkd xs n (at_ + 1)).2).2)) else (opK xs[at_].kd (rkd xs n (at_ + 1)).1 0, (rkd xs n (at_ + 1)).2) := by
  rw [rkd, List.getElem?_eq_getElem h]
  dsimp only
  rw [if_neg (by rw [hm]; simp), if_neg hk.1, if_neg hk.2.1, if_neg hk.2.2]
set_option maxHeartbeats 4000000 in
set_option maxRecDepth 100000 in
theorem rKind_step (ad : Option Addr) (cap : Nat) (xs : List Pt) (hx : xs.length ≤ 200) (hs : ∀ p ∈ xs, p.s.size ≤ 140737488351232 ∧ p.st.size ≤ 9223372036854775807) (n : Nat) (hn : n ≤ 100) (IH : KdOK ad cap xs n) (at_ : Nat) (hat : at_ < xs.length) (w : World) (hA : PtsAt w ad xs) :
    Calls Tryz.prog 27 #[.slice ad xs.length cap, .int .i64 (at_ : Int), .int .i64 ((n + 1 : Nat) : Int)] w (KdT w (n + 1) (rkd xs (n + 1) at_)) := by
  obtain ⟨sz1, sz2⟩ := hs xs[at_] (List.getElem_mem _)
  have MY := hide (rMay_any xs[at_] w sz1 sz2)
  obtain ⟨b, off, rfl, hbl, x0, x1, x2, x3, x4⟩ := hA.at at_ hat
  have HL : Hid (∀ W, Below w.heap.size w W → (W.cell? ⟨b, off + at_ * 5, none⟩ = some (.int .i64 xs[at_].kd) ∧ W.cell? ⟨b, off + at_ * 5 + 1, none⟩ = some (.int .i64 xs[at_].n) ∧ W.cell? ⟨b, off + at_ * 5 + 2, none⟩ = some (.string xs[at_].s) ∧ W.cell? ⟨b, off + at_ * 5 + 3, none⟩ = some (.string xs[at_].st) ∧ W.cell? ⟨b, off + at_ * 5 + 4, none⟩ = some (.int .i64 xs[at_].fl)) ∧ Hid (PtsAt W (some ⟨b, off, none⟩) xs)) := hide (fun W hb => ⟨⟨(Kp.ofBelow hb).cell x0 (by simp), (Kp.ofBelow hb).cell x1 (by simp), (Kp.ofBelow hb).cell x2 (by simp), (Kp.ofBelow hb).cell x3 (by simp), (Kp.ofBelow hb).cell x4 (by simp)⟩, hide (hA.kp (Kp.ofBelow hb))⟩)
  have HNO := hide (fun hm => rkd_no (n := n) hat hm)
  have HLF := hide (fun hm hk => rkd_leaf (n := n) hat hm hk)
  have HOP := hide (fun hm hk => rkd_op (n := n) hat hm hk)
  have HRL := hide (rkd_le xs n)
  have HIH := hide IH
  obtain ⟨RK, hRK⟩ : ∃ RK, rkd xs (n + 1) at_ = RK := ⟨_, rfl⟩
  rw [hRK] at HNO HLF HOP ⊢
  have g0 : ((xs.length : Int) ≤ (at_ : Int)) = False := eq_false (by omega)
  have g1 : (((n : Int) + 1) == 0) = false := beq_eq_false_iff_ne.2 (by omega)
  have hli : (at_ : Int) < (xs.length : Int) := by omega
  have ha1 : Hid ((at_ : Int) + 1 = ((at_ + 1 : Nat) : Int)) := hide (by omega)
  have e2 : (((n + 1 : Nat) : Int)) = (n : Int) + 1 := by omega
  rw [e2]
  clear e2
  clear hA hRK IH hs sz1 sz2
  generalize xs[at_] = p at *
  obtain ⟨pk, pn, ps, pt, pf⟩ := p
  unfold Pt.v at MY
  dsimp only at *
  cases hm : mayP ⟨pk, pn, ps, pt, pf⟩ with
  | false =>
    obtain rfl := unhide HNO hm
    rw [hm] at MY
    clear HNO HLF HOP hm HIH HL
    go_enter Tryz.func27, Tryz.ntmps27
    go_wp2_with fail
    refine (unhide MY).mono ?_
    rintro e w1 ⟨rfl, hb1⟩
    clear MY
    go_wp2
    exact bodyPost_ret (results_tmp3 rfl _ _ _) rfl ⟨0, by omega, by omega, rfl, hb1⟩
  | true =>
    rw [hm] at MY
    have HLF2 := hide (unhide HLF hm)
    have HOP2 := hide (unhide HOP hm)
    clear HNO HLF HOP hm
    by_cases hleaf : pk = 1 ∨ pk = 2 ∨ pk = 3
    · have hR := unhide HLF2 hleaf
      have HD : Hid (∀ W, Below w.heap.size w W → KdT w (n + 1) RK (.returned (.tuple #[.int .i64 (if pk = 1 then 1 else if pk = 2 then 2 else if pf < 4 then 1 else 2), .int .i64 ((at_ + 1 : Nat) : Int), .int .i64 1])) W) := hide (fun W hb => ⟨1, by omega, by omega, by rw [hR], hb⟩)
      rw [← unhide ha1] at HD
      clear HLF2 HOP2 HIH hR
      rcases hleaf with rfl | rfl | rfl
      · rw [if_pos rfl] at HD
        go_enter Tryz.func27, Tryz.ntmps27
        go_wp2_with fail
        refine (unhide MY).mono ?_
        rintro e w1 ⟨rfl, hb1⟩
        obtain ⟨⟨y0, y1, y2, y3, y4⟩, _⟩ := unhide HL w1 hb1
        have HB := hide (hb1.alloc hb1.size (.cells #[.int .i64 1, .int .i64 pn, .string ps, .string pt, .int .i64 pf] 53))
        clear MY hb1 HL x0 x1 x2 x3 x4
        go_wp2
        refine bodyPost_ret (results_tmp3 rfl _ _ _) rfl ?_
        exact unhide HD _ (unhide HB)
      · rw [if_neg (by decide), if_pos rfl] at HD
        go_enter Tryz.func27, Tryz.ntmps27
        go_wp2_with fail
        refine (unhide MY).mono ?_
        rintro e w1 ⟨rfl, hb1⟩
        obtain ⟨⟨y0, y1, y2, y3, y4⟩, _⟩ := unhide HL w1 hb1
        have HB := hide (hb1.alloc hb1.size (.cells #[.int .i64 2, .int .i64 pn, .string ps, .string pt, .int .i64 pf] 53))
        clear MY hb1 HL x0 x1 x2 x3 x4
        go_wp2
        refine bodyPost_ret (results_tmp3 rfl _ _ _) rfl ?_
        exact unhide HD _ (unhide HB)
      · rw [if_neg (by decide), if_neg (by decide)] at HD
        by_cases hf : pf < 4
        · have gf : (pf < 4) = True := eq_true hf
          rw [if_pos hf] at HD
          go_enter Tryz.func27, Tryz.ntmps27
          go_wp2_with fail
          refine (unhide MY).mono ?_
          rintro e w1 ⟨rfl, hb1⟩
          obtain ⟨⟨y0, y1, y2, y3, y4⟩, _⟩ := unhide HL w1 hb1
          have HB := hide (hb1.alloc hb1.size (.cells #[.int .i64 3, .int .i64 pn, .string ps, .string pt, .int .i64 pf] 53))
          clear MY hb1 HL x0 x1 x2 x3 x4
          go_wp2
          refine bodyPost_ret (results_tmp3 rfl _ _ _) rfl ?_
          exact unhide HD _ (unhide HB)
        · have gf : (pf < 4) = False := eq_false hf
          rw [if_neg hf] at HD
          go_enter Tryz.func27, Tryz.ntmps27
          go_wp2_with fail
          refine (unhide MY).mono ?_
          rintro e w1 ⟨rfl, hb1⟩
          obtain ⟨⟨y0, y1, y2, y3, y4⟩, _⟩ := unhide HL w1 hb1
          have HB := hide (hb1.alloc hb1.size (.cells #[.int .i64 3, .int .i64 pn, .string ps, .string pt, .int .i64 pf] 53))
          clear MY hb1 HL x0 x1 x2 x3 x4
          go_wp2
          refine bodyPost_ret (results_tmp3 rfl _ _ _) rfl ?_
          exact unhide HD _ (unhide HB)
    · have hop : pk ≠ 1 ∧ pk ≠ 2 ∧ pk ≠ 3 := ⟨fun h => hleaf (Or.inl h), fun h => hleaf (Or.inr (Or.inl h)), fun h => hleaf (Or.inr (Or.inr h))⟩
      have hR := unhide HOP2 hop
      have k1 : (pk == 1) = false := beq_eq_false_iff_ne.2 hop.1
      have k2 : (pk == 2) = false := beq_eq_false_iff_ne.2 hop.2.1
      have k3 : (pk == 3) = false := beq_eq_false_iff_ne.2 hop.2.2
      have IH1 := hide (fun W (hA : PtsAt W (some ⟨b, off, none⟩) xs) => unhide HIH (at_ + 1) W (by omega) hA)
      rw [← unhide ha1] at IH1
      have IH2 := hide (fun W (hA : PtsAt W (some ⟨b, off, none⟩) xs) => unhide HIH (rkd xs n (at_ + 1)).2 W (unhide HRL _) hA)
      have hR2 := unhide HRL (at_ + 1)
      have hR3 := unhide HRL (rkd xs n (at_ + 1)).2
      clear HLF2 HOP2 HIH hleaf hop HRL
      generalize rkd xs n (rkd xs n (at_ + 1)).2 = r2 at *
      generalize rkd xs n (at_ + 1) = r1 at *
      obtain ⟨A, E⟩ := r1
      obtain ⟨K, F⟩ := r2
      unfold KdT at IH1 IH2
      dsimp only at *
      have HRK := hide hR
      clear hR
      go_enter Tryz.func27, Tryz.ntmps27
      go_wp2_with fail
      refine (unhide MY).mono ?_
      rintro e w1 ⟨rfl, hb1⟩
      obtain ⟨⟨y0, y1, y2, y3, y4⟩, _⟩ := unhide HL w1 hb1
      have hb2 := hb1.alloc hb1.size (.cells #[.int .i64 pk, .int .i64 pn, .string ps, .string pt, .int .i64 pf] 53)
      obtain ⟨_, HA2⟩ := unhide HL _ hb2
      have bx : CBox w1.heap.size #[.int .i64 pk, .int .i64 pn, .string ps, .string pt, .int .i64 pf] 53 (w1.alloc (.cells #[.int .i64 pk, .int .i64 pn, .string ps, .string pt, .int .i64 pf] 53)) := CBox.new w1 _ _
      have C1 := hide (unhide IH1 _ (unhide HA2))
      have HB2 := hide hb2
      have HBX := hide bx
      clear MY hb1 hb2 bx IH1 x0 x1 x2 x3 x4 HA2
      go_wp2_with fail
      refine (unhide C1).mono ?_
      rintro e w3 ⟨D, hD0, hD1, rfl, hb3⟩
      have HB3 := hide ((unhide HB2).trans (hb3.mono (unhide HB2).size))
      have z0 := ((unhide HBX).kp (Kp.ofBelow hb3) (by simp)).cell (i := 0) (v := .int .i64 pk) rfl
      have HBX3 := hide ((unhide HBX).kp (Kp.ofBelow hb3) (by simp))
      obtain ⟨_, HA3⟩ := unhide HL w3 (unhide HB3)
      clear C1 hb3 HB2 HBX y0 y1 y2 y3 y4
      by_cases hA0 : A = 0
      · subst hA0
        have hR : RK = (opK pk 0 0, E) := by rw [unhide HRK, if_neg (by simp)]
        have OF := hide (fun W => rOf_any pk 0 0 W)
        clear IH2 HL HA3
        go_wp2_with fail
        refine (unhide OF _).mono ?_
        rintro e w4 ⟨rfl, rfl⟩
        clear OF
        go_wp2
        refine bodyPost_ret (results_tmp3 rfl _ _ _) rfl ?_
        exact ⟨D + 1, by omega, by omega, by rw [hR]; rfl, unhide HB3⟩
      · have gA : (A == 0) = false := beq_eq_false_iff_ne.2 hA0
        by_cases h13 : pk = 13
        · subst h13
          have hR : RK = (opK 13 A 0, E) := by rw [unhide HRK, if_neg (by simp)]
          have OF := hide (fun W => rOf_any 13 A 0 W)
          clear IH2 HL HA3 k1 k2 k3
          go_wp2_with fail
          refine (unhide OF _).mono ?_
          rintro e w4 ⟨rfl, rfl⟩
          clear OF
          go_wp2
          refine bodyPost_ret (results_tmp3 rfl _ _ _) rfl ?_
          exact ⟨D + 1, by omega, by omega, by rw [hR]; rfl, unhide HB3⟩
        · have g13 : (pk == 13) = false := beq_eq_false_iff_ne.2 h13
          have g13' : (pk != 13) = true := by simpa using h13
          have gA' : (A != 0) = true := by simpa using hA0
          have C2 := hide (unhide IH2 _ (unhide HA3))
          clear IH2 HA3
          go_wp2_with fail
          refine (unhide C2).mono ?_
          rintro e w5 ⟨D2, hD20, hD21, rfl, hb5⟩
          have HB5 := hide ((unhide HB3).trans (hb5.mono (unhide HB3).size))
          have z1 := ((unhide HBX3).kp (Kp.ofBelow hb5) (by simp)).cell (i := 0) (v := .int .i64 pk) rfl
          clear C2 hb5 HB3 HBX3 z0 HL
          by_cases hK0 : K = 0
          · subst hK0
            have hR : RK = (0, 0) := by rw [unhide HRK, if_pos ⟨hA0, h13⟩, if_pos rfl]
            go_wp2
            refine bodyPost_ret (results_tmp3 rfl _ _ _) rfl ?_
            exact ⟨0, by omega, by omega, by rw [hR]; rfl, unhide HB5⟩
          · have gK : (K == 0) = false := beq_eq_false_iff_ne.2 hK0
            have hR : RK = (opK pk A K, F) := by rw [unhide HRK, if_pos ⟨hA0, h13⟩, if_neg hK0]
            have OF := hide (fun W => rOf_any pk A K W)
            go_wp2_with fail
            refine (unhide OF _).mono ?_
            rintro e w6 ⟨rfl, rfl⟩
            clear OF
            go_wp2
            refine bodyPost_ret (results_tmp3 rfl _ _ _) rfl ?_
            exact ⟨max D D2 + 1, by omega, by omega, by rw [hR]; rfl, unhide HB5⟩
theorem rKind_any (ad : Option Addr) (cap : Nat) (xs : List Pt) (hx : xs.length ≤ 200) (hs : ∀ p ∈ xs, p.s.size ≤ 140737488351232 ∧ p.st.size ≤ 9223372036854775807) (n : Nat) (hn : n ≤ 100) : KdOK ad cap xs n := by
  induction n with
  | zero => intro at_ w _ _; exact rKind_end ad cap xs 0 at_ w (Or.inl rfl)
  | succ n ih =>
    intro at_ w hat hA
    rcases Nat.lt_or_ge at_ xs.length with h | h
    · exact rKind_step ad cap xs hx hs n (by omega) (ih (by omega)) at_ h w hA
    · have e : rkd xs (n + 1) at_ = (0, 0) := by rw [rkd, List.getElem?_eq_none h]
      rw [e]
      exact rKind_end ad cap xs (n + 1) at_ w (Or.inr h)
end Go.Proofs.YthipclehhcfahaaGreatDoor
