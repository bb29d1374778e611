/-
  The ten operations' own functions: what each makes of two values.
  Is a text empty?
  The moment: how it lies; a field's value.
  A part's value, of those of its sides; the fold of values.
-/
import Derived.Test.YtogklmljllocbabGreatDoorF24
import Derived.Test.YtogklmljllocbabGreatDoorF10
import Derived.Test.YtogklmljllocbabGreatDoorF08
import Derived.Deep.DeepCutAuto
import Derived.Deep.RegionHeld3
import Derived.Test.YtogklmljllocbabGreatDoorF20
namespace Go.Proofs.YtogklmljllocbabGreatDoor
open Go.RowKit Go.Shelf

def Vl.v (a : Vl) : Value := .agg #[.int .i64 a.n, .string a.s, .bool a.t]
theorem info_vl : (Tryz.prog.info? 100).map (·.size) = some 3 := by kernel_rfl
/-- Two values held against one another. -/
theorem eqVl (d : Nat) (a b : Vl) (w : World) : (Op.equalIn (d + 2) 100 a.v b.v).run Tryz.prog w = .ok (eqV a b) w := by
  obtain ⟨n, s, t⟩ := a
  obtain ⟨n', s', t'⟩ := b
  have hi6 := fun (a b : Int) (w : World) => run_equalIn_int (P := Tryz.prog) w d 2 .i64 .i64 a b Tryz.underlying2
  have hs := fun (a b : ByteArray) (w : World) => run_equalIn_string (P := Tryz.prog) w d 9 a b Tryz.underlying9
  have hb := fun (a b : Bool) (w : World) => run_equalIn_bool (P := Tryz.prog) w d 4 a b Tryz.underlying4
  unfold Op.equalIn Vl.v eqV
  simp only [Sem.run_bind, run_underlying Tryz.underlying100, Result.andThen_ok]
  simp [part, Tryz.sizeOf2, Tryz.sizeOf4, Tryz.sizeOf9, go_sem, hi6, hs, hb, ByteArray.toList_eq]
  by_cases h0 : n = n' <;> by_cases h1 : s.data = s'.data <;> by_cases h2 : t = t' <;> simp [h0, h1, h2]
theorem vl_at (w : World) (A B X : Obj) : (((w.alloc A).alloc B).alloc X).heap[w.heap.size + 1 + 1]? = some X := by
  have := heap_alloc_new ((w.alloc A).alloc B) X
  rwa [show ((w.alloc A).alloc B).heap.size = w.heap.size + 1 + 1 by simp] at this
theorem vl_all (w : World) (A B X : Obj) : Below w.heap.size w (((w.alloc A).alloc B).alloc X) :=
  (((Below.refl _ _).alloc (Nat.le_refl _) _).alloc (by simp) _).alloc (by simp; omega) _
set_option maxHeartbeats 1000000 in
set_option maxRecDepth 100000 in
theorem opf1 (a b : Vl) (w : World) : Calls Tryz.prog 155 #[a.v, b.v] w fun e w' => e = .returned (opV 4 a b).v ∧ Below w.heap.size w w' := by
  obtain ⟨n, s, t⟩ := a
  obtain ⟨n', s', t'⟩ := b
  unfold Vl.v at *
  unfold opV
  rw [if_pos rfl]
  dsimp only at *
  go_enter Tryz.func155, Tryz.ntmps155
  go_wp2
  exact bodyPost_ret (results_cell_row Tryz.results155 _ _ (w.heap.size + 1 + 1) 100 _ (0, 0) _ rfl (vl_at w _ _ _) Tryz.underlying100 rfl info_vl) rfl ⟨by first | rfl | (rw [IntWalk.i64_left]; rfl), vl_all w _ _ _⟩
set_option maxHeartbeats 1000000 in
set_option maxRecDepth 100000 in
theorem opf2 (a b : Vl) (w : World) : Calls Tryz.prog 156 #[a.v, b.v] w fun e w' => e = .returned (opV 5 a b).v ∧ Below w.heap.size w w' := by
  obtain ⟨n, s, t⟩ := a
  obtain ⟨n', s', t'⟩ := b
  unfold Vl.v at *
  unfold opV
  rw [if_neg (by decide)]
  rw [if_pos rfl]
  dsimp only at *
  go_enter Tryz.func156, Tryz.ntmps156
  go_wp2
  exact bodyPost_ret (results_cell_row Tryz.results156 _ _ (w.heap.size + 1 + 1) 100 _ (0, 0) _ rfl (vl_at w _ _ _) Tryz.underlying100 rfl info_vl) rfl ⟨by first | rfl | (rw [IntWalk.i64_left]; rfl), vl_all w _ _ _⟩
set_option maxHeartbeats 1000000 in
set_option maxRecDepth 100000 in
theorem opf3 (a b : Vl) (w : World) : Calls Tryz.prog 157 #[a.v, b.v] w fun e w' => e = .returned (opV 6 a b).v ∧ Below w.heap.size w w' := by
  obtain ⟨n, s, t⟩ := a
  obtain ⟨n', s', t'⟩ := b
  unfold Vl.v at *
  unfold opV
  rw [if_neg (by decide)]
  rw [if_neg (by decide)]
  rw [if_pos rfl]
  dsimp only at *
  go_enter Tryz.func157, Tryz.ntmps157
  go_wp2
  exact bodyPost_ret (results_cell_row Tryz.results157 _ _ (w.heap.size + 1 + 1) 100 _ (0, 0) _ rfl (vl_at w _ _ _) Tryz.underlying100 rfl info_vl) rfl ⟨by first | rfl | (rw [IntWalk.i64_left]; rfl), vl_all w _ _ _⟩
set_option maxHeartbeats 1000000 in
set_option maxRecDepth 100000 in
theorem opf4 (a b : Vl) (w : World) : Calls Tryz.prog 158 #[a.v, b.v] w fun e w' => e = .returned (opV 7 a b).v ∧ Below w.heap.size w w' := by
  obtain ⟨n, s, t⟩ := a
  obtain ⟨n', s', t'⟩ := b
  unfold Vl.v at *
  unfold opV
  rw [if_neg (by decide)]
  rw [if_neg (by decide)]
  rw [if_neg (by decide)]
  rw [if_pos rfl]
  dsimp only at *
  go_enter Tryz.func158, Tryz.ntmps158
  go_wp2
  exact bodyPost_ret (results_cell_row Tryz.results158 _ _ (w.heap.size + 1 + 1) 100 _ (0, 0) _ rfl (vl_at w _ _ _) Tryz.underlying100 rfl info_vl) rfl ⟨by first | rfl | (rw [IntWalk.i64_left]; rfl), vl_all w _ _ _⟩
set_option maxHeartbeats 1000000 in
set_option maxRecDepth 100000 in
theorem opf5 (a b : Vl) (w : World) : Calls Tryz.prog 159 #[a.v, b.v] w fun e w' => e = .returned (opV 8 a b).v ∧ Below w.heap.size w w' := by
  obtain ⟨n, s, t⟩ := a
  obtain ⟨n', s', t'⟩ := b
  unfold Vl.v at *
  unfold opV
  rw [if_neg (by decide)]
  rw [if_neg (by decide)]
  rw [if_neg (by decide)]
  rw [if_neg (by decide)]
  rw [if_pos rfl]
  dsimp only at *
  go_enter Tryz.func159, Tryz.ntmps159
  go_wp2
  exact bodyPost_ret (results_cell_row Tryz.results159 _ _ (w.heap.size + 1 + 1) 100 _ (0, 0) _ rfl (vl_at w _ _ _) Tryz.underlying100 rfl info_vl) rfl ⟨by first | rfl | (rw [IntWalk.i64_left]; rfl), vl_all w _ _ _⟩
set_option maxHeartbeats 1000000 in
set_option maxRecDepth 100000 in
theorem opf6 (a b : Vl) (w : World) : Calls Tryz.prog 160 #[a.v, b.v] w fun e w' => e = .returned (opV 9 a b).v ∧ Below w.heap.size w w' := by
  have q := fun W => eqVl 9998 a b W
  obtain ⟨n, s, t⟩ := a
  obtain ⟨n', s', t'⟩ := b
  unfold Vl.v at *
  unfold opV
  rw [if_neg (by decide)]
  rw [if_neg (by decide)]
  rw [if_neg (by decide)]
  rw [if_neg (by decide)]
  rw [if_neg (by decide)]
  rw [if_pos rfl]
  dsimp only at *
  go_enter Tryz.func160, Tryz.ntmps160
  go_wp2
  exact bodyPost_ret (results_cell_row Tryz.results160 _ _ (w.heap.size + 1 + 1) 100 _ (0, 0) _ rfl (vl_at w _ _ _) Tryz.underlying100 rfl info_vl) rfl ⟨by first | rfl | (rw [IntWalk.i64_left]; rfl), vl_all w _ _ _⟩
set_option maxHeartbeats 1000000 in
set_option maxRecDepth 100000 in
theorem opf7 (a b : Vl) (w : World) : Calls Tryz.prog 161 #[a.v, b.v] w fun e w' => e = .returned (opV 10 a b).v ∧ Below w.heap.size w w' := by
  have q := fun W => eqVl 9998 a b W
  obtain ⟨n, s, t⟩ := a
  obtain ⟨n', s', t'⟩ := b
  unfold Vl.v at *
  unfold opV
  rw [if_neg (by decide)]
  rw [if_neg (by decide)]
  rw [if_neg (by decide)]
  rw [if_neg (by decide)]
  rw [if_neg (by decide)]
  rw [if_neg (by decide)]
  rw [if_pos rfl]
  dsimp only at *
  go_enter Tryz.func161, Tryz.ntmps161
  go_wp2
  exact bodyPost_ret (results_cell_row Tryz.results161 _ _ (w.heap.size + 1 + 1) 100 _ (0, 0) _ rfl (vl_at w _ _ _) Tryz.underlying100 rfl info_vl) rfl ⟨by first | rfl | (rw [IntWalk.i64_left]; rfl), vl_all w _ _ _⟩
set_option maxHeartbeats 1000000 in
set_option maxRecDepth 100000 in
theorem opf8 (a b : Vl) (w : World) : Calls Tryz.prog 162 #[a.v, b.v] w fun e w' => e = .returned (opV 11 a b).v ∧ Below w.heap.size w w' := by
  obtain ⟨n, s, t⟩ := a
  obtain ⟨n', s', t'⟩ := b
  unfold Vl.v at *
  unfold opV
  rw [if_neg (by decide)]
  rw [if_neg (by decide)]
  rw [if_neg (by decide)]
  rw [if_neg (by decide)]
  rw [if_neg (by decide)]
  rw [if_neg (by decide)]
  rw [if_neg (by decide)]
  rw [if_pos rfl]
  dsimp only at *
  cases t
  all_goals
    go_enter Tryz.func162, Tryz.ntmps162
    go_wp2
    exact bodyPost_ret (results_cell_row Tryz.results162 _ _ (w.heap.size + 1 + 1) 100 _ (0, 0) _ rfl (vl_at w _ _ _) Tryz.underlying100 rfl info_vl) rfl ⟨by first | rfl | (rw [IntWalk.i64_left]; rfl), vl_all w _ _ _⟩
set_option maxHeartbeats 1000000 in
set_option maxRecDepth 100000 in
theorem opf9 (a b : Vl) (w : World) : Calls Tryz.prog 163 #[a.v, b.v] w fun e w' => e = .returned (opV 12 a b).v ∧ Below w.heap.size w w' := by
  obtain ⟨n, s, t⟩ := a
  obtain ⟨n', s', t'⟩ := b
  unfold Vl.v at *
  unfold opV
  rw [if_neg (by decide)]
  rw [if_neg (by decide)]
  rw [if_neg (by decide)]
  rw [if_neg (by decide)]
  rw [if_neg (by decide)]
  rw [if_neg (by decide)]
  rw [if_neg (by decide)]
  rw [if_neg (by decide)]
  rw [if_pos rfl]
  dsimp only at *
  cases t
  all_goals
    go_enter Tryz.func163, Tryz.ntmps163
    go_wp2
    exact bodyPost_ret (results_cell_row Tryz.results163 _ _ (w.heap.size + 1 + 1) 100 _ (0, 0) _ rfl (vl_at w _ _ _) Tryz.underlying100 rfl info_vl) rfl ⟨by first | rfl | (rw [IntWalk.i64_left]; rfl), vl_all w _ _ _⟩
set_option maxHeartbeats 1000000 in
set_option maxRecDepth 100000 in
theorem opf10 (a b : Vl) (w : World) : Calls Tryz.prog 164 #[a.v, b.v] w fun e w' => e = .returned (opV 13 a b).v ∧ Below w.heap.size w w' := by
  obtain ⟨n, s, t⟩ := a
  obtain ⟨n', s', t'⟩ := b
  unfold Vl.v at *
  unfold opV
  rw [if_neg (by decide)]
  rw [if_neg (by decide)]
  rw [if_neg (by decide)]
  rw [if_neg (by decide)]
  rw [if_neg (by decide)]
  rw [if_neg (by decide)]
  rw [if_neg (by decide)]
  rw [if_neg (by decide)]
  rw [if_neg (by decide)]
  dsimp only at *
  go_enter Tryz.func164, Tryz.ntmps164
  go_wp2
  exact bodyPost_ret (results_cell_row Tryz.results164 _ _ (w.heap.size + 1 + 1) 100 _ (0, 0) _ rfl (vl_at w _ _ _) Tryz.underlying100 rfl info_vl) rfl ⟨by first | rfl | (rw [IntWalk.i64_left]; rfl), vl_all w _ _ _⟩
end Go.Proofs.YtogklmljllocbabGreatDoor
namespace Go.Proofs.YtogklmljllocbabGreatDoor

theorem emp_toList (s : ByteArray) : s.toList.isEmpty = emptyB s := emp_list s
theorem emp_str (s : ByteArray) : (s.toList == ([] : List UInt8)) = emptyB s := by
  rw [toList_data]
  unfold emptyB
  rw [Bool.eq_iff_iff, beq_iff_eq, beq_iff_eq]
  exact List.length_eq_zero_iff.symm
end Go.Proofs.YtogklmljllocbabGreatDoor
namespace Go.Proofs.YtogklmljllocbabGreatDoor
open Go.RowKit Go.Shelf

/-- The moment's cells. -/
def moC (M : Mo) (nv lv : Value) : Array Value := #[.string M.e.k, .string M.e.t, .int .i64 M.e.n0, .int .i64 M.e.n1, .int .i64 M.e.n2, .int .i64 M.e.n3, .string M.e.x, nv, lv]
/-- The moment lies there. -/
structure MoAt (gm : Nat) (M : Mo) (an al : Option Addr) (cn cl : Nat) (W : World) : Prop where
  box : CBox gm (moC M (.slice an M.ns.length cn) (.slice al M.la.length cl)) 98 W
  nms : NmsAt W an M.ns
  evs : EvsAt W al M.la
  len : M.ns.length ≤ 9223372036854775807
  both : M.ns.length = M.la.length
theorem MoAt.below {gm : Nat} {M : Mo} {an al : Option Addr} {cn cl : Nat} {W W' : World} (h : MoAt gm M an al cn cl W) (hb : Below W.heap.size W W') : MoAt gm M an al cn cl W' :=
  ⟨h.box.kp (Kp.ofBelow hb) (by simp), h.nms.kp (Kp.ofBelow hb) (by simp), h.evs.kp (Kp.ofBelow hb) (by simp), h.len, h.both⟩
/-- A value written into its cells. -/
theorem vl_put {g : Nat} {t : TypeId} {a b c : Value} {w W : World} (h : CBox g #[a, b, c] t W) (hb : Below g w W) (x y z : Value) :
    CBox g #[x, y, z] t (((W.setCell ⟨g, 0, none⟩ x).setCell ⟨g, 1, none⟩ y).setCell ⟨g, 2, none⟩ z) ∧ Below g w (((W.setCell ⟨g, 0, none⟩ x).setCell ⟨g, 1, none⟩ y).setCell ⟨g, 2, none⟩ z) :=
  ⟨((h.set 0 x).set 1 y).set 2 z, ((hb.setCell (p := ⟨g, 0, none⟩) (Nat.le_refl _) _).setCell (p := ⟨g, 1, none⟩) (Nat.le_refl _) _).setCell (p := ⟨g, 2, none⟩) (Nat.le_refl _) _⟩
set_option maxHeartbeats 2000000 in
set_option maxRecDepth 100000 in
theorem fieldValue_any {gm : Nat} {M : Mo} {an al : Option Addr} {cn cl : Nat} {W : World} (h : MoAt gm M an al cn cl W) (st : ByteArray) (f : Int) (hf : 0 ≤ f ∧ f ≤ 5) (hs : emptyB st = true ∨ hasN M.ns st = true) :
    Calls Tryz.prog 90 #[.pointer (some ⟨gm, 0, none⟩), .string st, .int .i64 f] W fun e w' => e = .returned (fdV (M.at st) f).v ∧ Below W.heap.size W w' := by
  have hgm := (Array.getElem?_eq_some_iff.1 h.box).1
  have h0 := h.below ((Below.refl _ _).alloc (Nat.le_refl _) (.cells #[.int .i64 0, .string { data := #[] }, .bool false] 100))
  have bx : CBox W.heap.size #[.int .i64 0, .string { data := #[] }, .bool false] 100 (W.alloc (.cells #[.int .i64 0, .string { data := #[] }, .bool false] 100)) := CBox.new W _ _
  have hb0 : Below W.heap.size W (W.alloc (.cells #[.int .i64 0, .string { data := #[] }, .bool false] 100)) := (Below.refl _ _).alloc (Nat.le_refl _) _
  have HM := hide h0
  have HX := hide bx
  have HB := hide hb0
  clear h h0 bx hb0
  go_enter Tryz.func90, Tryz.ntmps90
  go_upto_if 12 with fail
  generalize W.alloc (.cells #[.int .i64 0, .string { data := #[] }, .bool false] 100) = W1 at *
  go_cut [7] (fun p wc => ∃ b o, p = .pointer (some ⟨b, o, none⟩) ∧ Hid (wc.cell? ⟨b, o + 1, none⟩ = some (.string (M.at st).t) ∧ wc.cell? ⟨b, o + 2, none⟩ = some (.int .i64 (M.at st).n0) ∧ wc.cell? ⟨b, o + 3, none⟩ = some (.int .i64 (M.at st).n1) ∧ wc.cell? ⟨b, o + 4, none⟩ = some (.int .i64 (M.at st).n2) ∧ wc.cell? ⟨b, o + 5, none⟩ = some (.int .i64 (M.at st).n3) ∧ wc.cell? ⟨b, o + 6, none⟩ = some (.string (M.at st).x)) ∧ Hid (CBox W.heap.size #[.int .i64 0, .string { data := #[] }, .bool false] 100 wc ∧ Below W.heap.size W wc))
  case first =>
    by_cases he : emptyB st = true
    · have g1 : st.toList.isEmpty = true := by rw [emp_toList]; exact he
      have g2 : (st.toList == ([] : List UInt8)) = true := by rw [emp_str]; exact he
      have e : M.at st = M.e := by unfold Mo.at; rw [if_pos he]
      have bx := (unhide HM).box
      have HC : Hid (W1.cell? ⟨gm, 0 + 1, none⟩ = some (.string (M.at st).t) ∧ W1.cell? ⟨gm, 0 + 2, none⟩ = some (.int .i64 (M.at st).n0) ∧ W1.cell? ⟨gm, 0 + 3, none⟩ = some (.int .i64 (M.at st).n1) ∧ W1.cell? ⟨gm, 0 + 4, none⟩ = some (.int .i64 (M.at st).n2) ∧ W1.cell? ⟨gm, 0 + 5, none⟩ = some (.int .i64 (M.at st).n3) ∧ W1.cell? ⟨gm, 0 + 6, none⟩ = some (.string (M.at st).x)) := by rw [e]; exact hide ⟨bx.cell rfl, bx.cell rfl, bx.cell rfl, bx.cell rfl, bx.cell rfl, bx.cell rfl⟩
      clear he e bx HM hs
      rw [g1]
      go_wp2
      go_meet
      exact ⟨gm, 0, rfl, HC, hide ⟨unhide HX, unhide HB⟩⟩
    · have he' : emptyB st = false := by simpa using he
      have g1 : st.toList.isEmpty = false := by rw [emp_toList]; exact he'
      have g2 : (st.toList == ([] : List UInt8)) = false := by rw [emp_str]; exact he'
      have hin : fstN st M.ns < M.ns.length := by
        rcases hs with hs | hs
        · exact absurd hs he
        · unfold hasN at hs; exact of_decide_eq_true hs
      have e : M.at st = M.la[fstN st M.ns]'(by rw [← (unhide HM).both]; exact hin) := by
        unfold Mo.at
        rw [if_neg he, List.getD_eq_getElem?_getD, List.getElem?_eq_getElem (by rw [← (unhide HM).both]; exact hin)]
        rfl
      obtain ⟨b, o, rfl, q0, q1, q2, q3, q4, q5, q6⟩ := (unhide HM).evs.seven (fstN st M.ns) (by rw [← (unhide HM).both]; exact hin)
      rw [← e] at q1 q2 q3 q4 q5 q6
      have HC : Hid (W1.drew.cell? ⟨b, o + fstN st M.ns * 7 + 1, none⟩ = some (.string (M.at st).t) ∧ W1.drew.cell? ⟨b, o + fstN st M.ns * 7 + 2, none⟩ = some (.int .i64 (M.at st).n0) ∧ W1.drew.cell? ⟨b, o + fstN st M.ns * 7 + 3, none⟩ = some (.int .i64 (M.at st).n1) ∧ W1.drew.cell? ⟨b, o + fstN st M.ns * 7 + 4, none⟩ = some (.int .i64 (M.at st).n2) ∧ W1.drew.cell? ⟨b, o + fstN st M.ns * 7 + 5, none⟩ = some (.int .i64 (M.at st).n3) ∧ W1.drew.cell? ⟨b, o + fstN st M.ns * 7 + 6, none⟩ = some (.string (M.at st).x)) := hide ⟨q1, q2, q3, q4, q5, q6⟩
      have IX := hide (index_any an cn M.ns st W1.drew (unhide HM).len ((unhide HM).nms.kp (Kp.drew W1) (by simp)) hin)
      have bx := (unhide HM).box
      have c7 : W1.drew.cell? ⟨gm, 7, none⟩ = some (.slice an M.ns.length cn) := bx.cell rfl
      have c8 : W1.drew.cell? ⟨gm, 8, none⟩ = some (.slice (some ⟨b, o, none⟩) M.la.length cl) := bx.cell rfl
      have cS := And.intro c7 c8
      have hil : ((fstN st M.ns : Nat) : Int) < ((M.la.length : Nat) : Int) := by have := (unhide HM).both; omega
      have HX2 : Hid (CBox W.heap.size #[.int .i64 0, .string { data := #[] }, .bool false] 100 W1.drew ∧ Below W.heap.size W W1.drew) := hide ⟨unhide HX, (unhide HB).drew⟩
      have hln := (unhide HM).len
      clear q0 q1 q2 q3 q4 q5 q6
      clear e
      clear he he' bx HM hs hin c7 c8 HX HB
      rw [g1]
      generalize fstN st M.ns = I at *
      generalize M.ns.length = NL at *
      generalize M.la.length = LL at *
      generalize M.at st = EV at *
      go_wp2_with fail
      go_region_held3 (fun w' => w'.cell? ⟨gm, 7, none⟩ = some (.slice an NL cn) ∧ w'.cell? ⟨gm, 8, none⟩ = some (.slice (some ⟨b, o, none⟩) LL cl))
        (first | with_reducible exact cS)
        (first | (go_at_call 86; refine (unhide IX).mono ?_; rintro e w2 ⟨rfl, rfl⟩))
      go_wp2
      go_meet
      exact ⟨b, _, rfl, HC, HX2⟩
  case rest =>
    obtain ⟨b, o, rfl, HC, HXB⟩ := hcut
    obtain ⟨c1, c2, c3, c4, c5, c6⟩ := unhide HC
    obtain ⟨bx, hb⟩ := unhide HXB
    have z0 := bx.cell (i := 0) (v := .int .i64 0) rfl
    have z1 := bx.cell (i := 1) (v := .string { data := #[] }) rfl
    have z2 := bx.cell (i := 2) (v := .bool false) rfl
    have fz := bx.froz
    have hlt := (Array.getElem?_eq_some_iff.1 bx).1
    have HXX := hide (vl_put bx hb)
    clear hb bx HXB HC HM HX HB
    obtain ⟨EV, hEV⟩ : ∃ EV, M.at st = EV := ⟨_, rfl⟩
    rw [hEV] at c1 c2 c3 c4 c5 c6
    have HEV := hide hEV
    clear hEV
    generalize wc = WC at *
    rcases (show f = 0 ∨ f = 1 ∨ f = 2 ∨ f = 3 ∨ f = 4 ∨ f = 5 by omega) with rfl | rfl | rfl | rfl | rfl | rfl
    all_goals
      go_wp2
      exact bodyPost_ret (results_cell_row Tryz.results90 _ _ W.heap.size 100 _ (0, 0) _ rfl (unhide HXX _ _ _).1 Tryz.underlying100 rfl info_vl) rfl ⟨by rw [unhide HEV]; rfl, (unhide HXX _ _ _).2⟩
end Go.Proofs.YtogklmljllocbabGreatDoor
namespace Go.Proofs.YtogklmljllocbabGreatDoor
open Go.RowKit Go.Shelf

theorem vo_at (w : World) (A B C X : Obj) : ((((w.alloc A).alloc B).alloc C).alloc X).heap[w.heap.size + 1 + 1 + 1]? = some X := by
  have := heap_alloc_new (((w.alloc A).alloc B).alloc C) X
  rwa [show (((w.alloc A).alloc B).alloc C).heap.size = w.heap.size + 1 + 1 + 1 by simp] at this
theorem vo_all (w : World) (A B C X : Obj) : Below w.heap.size w ((((w.alloc A).alloc B).alloc C).alloc X) :=
  ((((Below.refl _ _).alloc (Nat.le_refl _) _).alloc (by simp) _).alloc (by simp; omega) _).alloc (by simp; omega) _
theorem vo_kp (w : World) (A B C X : Obj) : Kp [] w ((((w.alloc A).alloc B).alloc C).alloc X) := (((Kp.alloc _ _).trans (Kp.alloc _ _) (by simp)).trans (Kp.alloc _ _) (by simp)).trans (Kp.alloc _ _) (by simp)
theorem vl_put3 {g B : Nat} {t : TypeId} {a b c : Value} {w W : World} (hB : B ≤ g) (h : CBox g #[a, b, c] t W) (hb : Below B w W) (x y z : Value) :
    CBox g #[x, y, z] t (((W.setCell ⟨g, 0, none⟩ x).setCell ⟨g, 1, none⟩ y).setCell ⟨g, 2, none⟩ z) ∧ Below B w (((W.setCell ⟨g, 0, none⟩ x).setCell ⟨g, 1, none⟩ y).setCell ⟨g, 2, none⟩ z) :=
  ⟨((h.set 0 x).set 1 y).set 2 z, ((hb.setCell (p := ⟨g, 0, none⟩) hB _).setCell (p := ⟨g, 1, none⟩) hB _).setCell (p := ⟨g, 2, none⟩) hB _⟩
/-- What lies there behind a call, where the answer is written. -/
theorem vo_left {w W : World} {A B C : Obj} {r0 r1 r2 : Value} {t : TypeId} (hb : Below ((((w.alloc A).alloc B).alloc C).alloc (.cells #[r0, r1, r2] t)).heap.size ((((w.alloc A).alloc B).alloc C).alloc (.cells #[r0, r1, r2] t)) W) :
    (W.cell? ⟨w.heap.size + 1 + 1 + 1, 0, none⟩ = some r0 ∧ W.cell? ⟨w.heap.size + 1 + 1 + 1, 1, none⟩ = some r1 ∧ W.cell? ⟨w.heap.size + 1 + 1 + 1, 2, none⟩ = some r2 ∧ (∀ i, W.frozen? ⟨w.heap.size + 1 + 1 + 1, i, none⟩ = false)) ∧ w.heap.size + 1 + 1 + 1 < W.heap.size ∧ Hid (∀ x y z, CBox (w.heap.size + 1 + 1 + 1) #[x, y, z] t (((W.setCell ⟨w.heap.size + 1 + 1 + 1, 0, none⟩ x).setCell ⟨w.heap.size + 1 + 1 + 1, 1, none⟩ y).setCell ⟨w.heap.size + 1 + 1 + 1, 2, none⟩ z) ∧ Below w.heap.size w (((W.setCell ⟨w.heap.size + 1 + 1 + 1, 0, none⟩ x).setCell ⟨w.heap.size + 1 + 1 + 1, 1, none⟩ y).setCell ⟨w.heap.size + 1 + 1 + 1, 2, none⟩ z)) := by
  have h : CBox (w.heap.size + 1 + 1 + 1) #[r0, r1, r2] t W := CBox.kp (vo_at w A B C _) (Kp.ofBelow hb) (by simp)
  exact ⟨⟨h.cell rfl, h.cell rfl, h.cell rfl, h.froz⟩, (Array.getElem?_eq_some_iff.1 h).1, hide (vl_put3 (by omega) h ((vo_all w A B C _).trans (hb.mono (by simp; omega))))⟩
set_option maxHeartbeats 2000000 in
set_option maxRecDepth 100000 in
theorem valueOf_op {gm : Nat} (p : Pt) (a b R : Vl) (EF : Nat) (w : World) (h0 : sds p.kd ≠ 0) (hfn : fnO p.kd = .func (.func EF) #[] #[])
    (hen : ∀ args W, (callFunc EF args).run Tryz.prog W = .ok (.enter EF args) W) (HC : ∀ W, Calls Tryz.prog EF #[a.v, b.v] W fun e w' => e = .returned R.v ∧ Below W.heap.size W w') :
    Calls Tryz.prog 49 #[.pointer (some ⟨gm, 0, none⟩), p.v, .agg (rowC p.kd), .agg #[.int .i64 a.n, .string a.s, .bool a.t, .int .i64 b.n, .string b.s, .bool b.t]] w fun e w' => e = .returned R.v ∧ Below w.heap.size w w' := by
  have hs0 : ((0 : Int) < (sds p.kd : Nat)) := by omega
  have HEN := hide hen
  have HCC := hide HC
  unfold rowC
  rw [hfn]
  generalize txt (sgO p.kd) = S at *
  generalize ofO p.kd = O at *
  generalize isO p.kd = I at *
  generalize sds p.kd = N at *
  clear hen HC hfn h0
  obtain ⟨kd, n, s, st, fl⟩ := p
  obtain ⟨an, as_, at_⟩ := a
  obtain ⟨bn, bs, bt⟩ := b
  obtain ⟨rn, rs, rt⟩ := R
  unfold Pt.v Vl.v at *
  dsimp only at *
  go_enter Tryz.func49, Tryz.ntmps49
  go_wp2_with fail
  rw [unhide HEN, Oper.upon_enter]
  refine (unhide HCC _).mono ?_
  rintro e w1 ⟨rfl, hb1⟩
  obtain ⟨⟨r0, r1, r2, rf⟩, hlt, HX⟩ := vo_left hb1
  clear hb1 HCC HEN
  dsimp only
  go_wp2
  exact bodyPost_ret (results_cell_row Tryz.results49 _ _ (w.heap.size + 1 + 1 + 1) 100 _ (0, 0) _ rfl (unhide HX _ _ _).1 Tryz.underlying100 rfl info_vl) rfl ⟨rfl, (unhide HX _ _ _).2⟩
set_option maxHeartbeats 2000000 in
set_option maxRecDepth 100000 in
theorem valueOf_leaf {gm : Nat} {M : Mo} {an al : Option Addr} {cn cl : Nat} (p : Pt) (w : World) (h0 : sds p.kd = 0) (hM : MoAt gm M an al cn cl w) (hl : lfK p ≠ 0) (hs : emptyB p.st = true ∨ hasN M.ns p.st = true) :
    Calls Tryz.prog 49 #[.pointer (some ⟨gm, 0, none⟩), p.v, .agg (rowC p.kd), .agg #[.int .i64 0, .string { data := #[] }, .bool false, .int .i64 0, .string { data := #[] }, .bool false]] w fun e w' => e = .returned (lfV M p).v ∧ Below w.heap.size w w' := by
  have hone := fnO_one p.kd
  have hx := lfK_ne hl
  have HFV : Hid (p.kd = 3 → ∀ W, Below w.heap.size w W → Calls Tryz.prog 90 #[.pointer (some ⟨gm, 0, none⟩), .string p.st, .int .i64 p.fl] W fun e w' => e = .returned (fdV (M.at p.st) p.fl).v ∧ Below W.heap.size W w') := hide (fun hk W hb => fieldValue_any (hM.below hb) p.st p.fl (by
    rcases hx with ⟨e, _⟩ | ⟨e, _⟩ | ⟨_, a, b, _⟩
    · omega
    · omega
    · exact ⟨a, b⟩) hs)
  have hkd : p.kd = 1 ∨ p.kd = 2 ∨ p.kd = 3 := by
    rcases hx with ⟨e, _⟩ | ⟨e, _⟩ | ⟨e, _⟩
    · exact Or.inl e
    · exact Or.inr (Or.inl e)
    · exact Or.inr (Or.inr e)
  have HLV : Hid (lfV M p = if p.kd = 1 then ⟨p.n, noB, false⟩ else if p.kd = 2 then ⟨0, p.s, false⟩ else fdV (M.at p.st) p.fl) := hide rfl
  obtain ⟨F3, hF3⟩ : ∃ F3, fdV (M.at p.st) p.fl = F3 := ⟨_, rfl⟩
  rw [hF3] at HFV HLV
  obtain ⟨LV, hLV⟩ : ∃ LV, lfV M p = LV := ⟨_, rfl⟩
  rw [hLV] at HLV ⊢
  unfold rowC
  rw [h0]
  generalize fnO p.kd = F at *
  generalize txt (sgO p.kd) = S at *
  generalize ofO p.kd = O at *
  generalize isO p.kd = I at *
  clear hM hl hs hx h0 hF3 hLV
  obtain ⟨kd, n, s, st, fl⟩ := p
  unfold Pt.v
  dsimp only at *
  rcases hkd with rfl | rfl | rfl
  · obtain rfl : LV = ⟨n, noB, false⟩ := (unhide HLV).trans (if_pos rfl)
    clear HFV HLV
    unfold Vl.v noB
    dsimp only
    go_enter Tryz.func49, Tryz.ntmps49
    go_wp2
    exact bodyPost_ret (results_cell_row Tryz.results49 _ _ (w.heap.size + 1 + 1 + 1) 100 _ (0, 0) _ rfl (vo_at w _ _ _ _) Tryz.underlying100 rfl info_vl) rfl ⟨rfl, vo_all w _ _ _ _⟩
  · obtain rfl : LV = ⟨0, s, false⟩ := (unhide HLV).trans ((if_neg (by decide)).trans (if_pos rfl))
    clear HFV HLV
    unfold Vl.v
    dsimp only
    go_enter Tryz.func49, Tryz.ntmps49
    go_wp2
    exact bodyPost_ret (results_cell_row Tryz.results49 _ _ (w.heap.size + 1 + 1 + 1) 100 _ (0, 0) _ rfl (vo_at w _ _ _ _) Tryz.underlying100 rfl info_vl) rfl ⟨rfl, vo_all w _ _ _ _⟩
  · obtain rfl : LV = F3 := (unhide HLV).trans ((if_neg (by decide)).trans (if_neg (by decide)))
    have HFV2 := hide (unhide HFV rfl)
    clear HFV HLV
    obtain ⟨rn, rs, rt⟩ := LV
    unfold Vl.v at *
    dsimp only at *
    go_enter Tryz.func49, Tryz.ntmps49
    go_wp2_with fail
    refine (unhide HFV2 _ (vo_all w _ _ _ _)).mono ?_
    rintro e w1 ⟨rfl, hb1⟩
    obtain ⟨⟨r0, r1, r2, rf⟩, hlt, HX⟩ := vo_left hb1
    clear hb1 HFV2
    go_wp2
    exact bodyPost_ret (results_cell_row Tryz.results49 _ _ (w.heap.size + 1 + 1 + 1) 100 _ (0, 0) _ rfl (unhide HX _ _ _).1 Tryz.underlying100 rfl info_vl) rfl ⟨rfl, (unhide HX _ _ _).2⟩
theorem opf_any (k : Int) (h4 : 4 ≤ k) (h13 : k ≤ 13) (a b : Vl) : ∃ EF, fnO k = .func (.func EF) #[] #[] ∧ (∀ args W, (callFunc EF args).run Tryz.prog W = .ok (.enter EF args) W) ∧ ∀ W, Calls Tryz.prog EF #[a.v, b.v] W fun e w' => e = .returned (opV k a b).v ∧ Below W.heap.size W w' := by
  rcases (show k = 4 ∨ k = 5 ∨ k = 6 ∨ k = 7 ∨ k = 8 ∨ k = 9 ∨ k = 10 ∨ k = 11 ∨ k = 12 ∨ k = 13 by omega) with rfl | rfl | rfl | rfl | rfl | rfl | rfl | rfl | rfl | rfl
  · exact ⟨155, rfl, enters_of Tryz.func155 (by kernel_rfl) rfl, opf1 a b⟩
  · exact ⟨156, rfl, enters_of Tryz.func156 (by kernel_rfl) rfl, opf2 a b⟩
  · exact ⟨157, rfl, enters_of Tryz.func157 (by kernel_rfl) rfl, opf3 a b⟩
  · exact ⟨158, rfl, enters_of Tryz.func158 (by kernel_rfl) rfl, opf4 a b⟩
  · exact ⟨159, rfl, enters_of Tryz.func159 (by kernel_rfl) rfl, opf5 a b⟩
  · exact ⟨160, rfl, enters_of Tryz.func160 (by kernel_rfl) rfl, opf6 a b⟩
  · exact ⟨161, rfl, enters_of Tryz.func161 (by kernel_rfl) rfl, opf7 a b⟩
  · exact ⟨162, rfl, enters_of Tryz.func162 (by kernel_rfl) rfl, opf8 a b⟩
  · exact ⟨163, rfl, enters_of Tryz.func163 (by kernel_rfl) rfl, opf9 a b⟩
  · exact ⟨164, rfl, enters_of Tryz.func164 (by kernel_rfl) rfl, opf10 a b⟩
/-- The value of a part that may be. -/
theorem valueOf_each {gm : Nat} {M : Mo} {an al : Option Addr} {cn cl : Nat} {xs : List Pt} {w : World} (hM : MoAt gm M an al cn cl w) (hlv : ∀ q ∈ xs, sds q.kd = 0 → lfK q ≠ 0) (hst : hasS M.ns xs = true) (p : Pt) (ts : List Ex) (W : World) (hp : p ∈ xs) (hs : ts.length = sds p.kd) (hb : Below w.heap.size w W) :
    Calls Tryz.prog 49 #[.pointer (some ⟨gm, 0, none⟩), p.v, .agg (rowC p.kd), .agg (sdCV (ts.map (Ex.val (vlv M))))] W fun e w' => e = .returned (.agg (vlE ((vlv M) p (ts.map (Ex.val (vlv M))))).toArray) ∧ Below W.heap.size W w' := by
  have h2 := sds_le p.kd
  have hk : sds p.kd ≠ 0 → 4 ≤ p.kd ∧ p.kd ≤ 13 := fun h => by
    rcases (show sds p.kd = 1 ∨ sds p.kd = 2 by omega) with e | e
    · have := sds_one e; omega
    · have := sds_two e; omega
  match ts, hs with
  | [], hs =>
    have hq := List.all_eq_true.1 hst p hp
    simp only [Bool.or_eq_true] at hq
    exact valueOf_leaf p W hs.symm (hM.below hb) (hlv p hp hs.symm) hq
  | [a], hs =>
    have h0 : sds p.kd ≠ 0 := by rw [← hs]; simp
    obtain ⟨EF, e1, e2, e3⟩ := opf_any p.kd (hk h0).1 (hk h0).2 (a.val (vlv M)) ⟨0, noB, false⟩
    exact valueOf_op p (a.val (vlv M)) ⟨0, noB, false⟩ _ EF W h0 e1 e2 e3
  | [a, b], hs =>
    have h0 : sds p.kd ≠ 0 := by rw [← hs]; simp
    obtain ⟨EF, e1, e2, e3⟩ := opf_any p.kd (hk h0).1 (hk h0).2 (a.val (vlv M)) (b.val (vlv M))
    exact valueOf_op p (a.val (vlv M)) (b.val (vlv M)) _ EF W h0 e1 e2 e3
  | a :: b :: c :: r, hs => simp at hs; omega
theorem fold_values {gm : Nat} {M : Mo} {an al : Option Addr} {cn cl : Nat} (ad : Option Addr) (cap : Nat) (xs : List Pt) (hsz : xs.length ≤ 200) (w : World) (hc : PtsAt w ad xs) (hM : MoAt gm M an al cn cl w) (hlv : ∀ q ∈ xs, sds q.kd = 0 → lfK q ≠ 0) (hst : hasS M.ns xs = true) :
    Calls Tryz.prog 48 #[.slice ad xs.length cap, .func (.func 49) #[.pointer (some ⟨gm, 0, none⟩)] #[]] w fun e w' => e = .returned (foRV (fdX (vlv M) xs)) ∧ Below w.heap.size w w' :=
  callsIn_wide.1 (foldV_in 49 ad cap xs hsz w (PtsLow.of hc) (enters_of Tryz.func49 (by kernel_rfl) rfl) (fun p ts W hp _ _ hs hb => valueOf_each hM hlv hst p ts W hp hs hb))
end Go.Proofs.YtogklmljllocbabGreatDoor
