/-
  The ten operations' own functions: what each makes of two values.
  Events that lie somewhere.
  The moment: how it lies; a field's value.
-/
import Derived.Test.YthipclehhcfahabGreatDoorHPA29
import Derived.Test.YthipclehhcfahabGreatDoorHPA08
import Derived.Test.YthipclehhcfahabGreatDoorHPA07
import Derived.Deep.DeepCutAuto
import Derived.Deep.RegionHeld3
namespace Go.Proofs.YthipclehhcfahabGreatDoor
open Go.RowKit Go.Shelf

def Vl.v (a : Vl) : Value := .agg #[.int .i64 a.n, .string a.s, .bool a.t]
theorem info_vl : (Tryz.prog.info? 75).map (·.size) = some 3 := by kernel_rfl
/-- Two values held against one another. -/
theorem eqVl (d : Nat) (a b : Vl) (w : World) : (Op.equalIn (d + 2) 75 a.v b.v).run Tryz.prog w = .ok (eqV a b) w := by
  obtain ⟨n, s, t⟩ := a
  obtain ⟨n', s', t'⟩ := b
  have hi6 := fun (a b : Int) (w : World) => run_equalIn_int (P := Tryz.prog) w d 2 .i64 .i64 a b Tryz.underlying2
  have hs := fun (a b : ByteArray) (w : World) => run_equalIn_string (P := Tryz.prog) w d 9 a b Tryz.underlying9
  have hb := fun (a b : Bool) (w : World) => run_equalIn_bool (P := Tryz.prog) w d 4 a b Tryz.underlying4
  unfold Op.equalIn Vl.v eqV
  simp only [Sem.run_bind, run_underlying Tryz.underlying75, Result.andThen_ok]
  simp [part, Tryz.sizeOf2, Tryz.sizeOf4, Tryz.sizeOf9, go_sem, hi6, hs, hb, ByteArray.toList_eq]
  by_cases h0 : n = n' <;> by_cases h1 : s.data = s'.data <;> by_cases h2 : t = t' <;> simp [h0, h1, h2]
theorem vl_at (w : World) (A B X : Obj) : (((w.alloc A).alloc B).alloc X).heap[w.heap.size + 1 + 1]? = some X := by
  have := heap_alloc_new ((w.alloc A).alloc B) X
  rwa [show ((w.alloc A).alloc B).heap.size = w.heap.size + 1 + 1 by simp] at this
theorem vl_all (w : World) (A B X : Obj) : Below w.heap.size w (((w.alloc A).alloc B).alloc X) :=
  (((Below.refl _ _).alloc (Nat.le_refl _) _).alloc (by simp) _).alloc (by simp; omega) _
set_option maxHeartbeats 1000000 in
set_option maxRecDepth 100000 in
theorem opf1 (a b : Vl) (w : World) : Calls Tryz.prog 96 #[a.v, b.v] w fun e w' => e = .returned (opV 4 a b).v ∧ Below w.heap.size w w' := by
  obtain ⟨n, s, t⟩ := a
  obtain ⟨n', s', t'⟩ := b
  unfold Vl.v at *
  unfold opV
  rw [if_pos rfl]
  dsimp only at *
  go_enter Tryz.func96, Tryz.ntmps96
  go_wp2
  exact bodyPost_ret (results_cell_row Tryz.results96 _ _ (w.heap.size + 1 + 1) 75 _ (0, 0) _ rfl (vl_at w _ _ _) Tryz.underlying75 rfl info_vl) rfl ⟨by first | rfl | (rw [IntWalk.i64_left]; rfl), vl_all w _ _ _⟩
set_option maxHeartbeats 1000000 in
set_option maxRecDepth 100000 in
theorem opf2 (a b : Vl) (w : World) : Calls Tryz.prog 97 #[a.v, b.v] w fun e w' => e = .returned (opV 5 a b).v ∧ Below w.heap.size w w' := by
  obtain ⟨n, s, t⟩ := a
  obtain ⟨n', s', t'⟩ := b
  unfold Vl.v at *
  unfold opV
  rw [if_neg (by decide)]
  rw [if_pos rfl]
  dsimp only at *
  go_enter Tryz.func97, Tryz.ntmps97
  go_wp2
  exact bodyPost_ret (results_cell_row Tryz.results97 _ _ (w.heap.size + 1 + 1) 75 _ (0, 0) _ rfl (vl_at w _ _ _) Tryz.underlying75 rfl info_vl) rfl ⟨by first | rfl | (rw [IntWalk.i64_left]; rfl), vl_all w _ _ _⟩
set_option maxHeartbeats 1000000 in
set_option maxRecDepth 100000 in
theorem opf3 (a b : Vl) (w : World) : Calls Tryz.prog 98 #[a.v, b.v] w fun e w' => e = .returned (opV 6 a b).v ∧ Below w.heap.size w w' := by
  obtain ⟨n, s, t⟩ := a
  obtain ⟨n', s', t'⟩ := b
  unfold Vl.v at *
  unfold opV
  rw [if_neg (by decide)]
  rw [if_neg (by decide)]
  rw [if_pos rfl]
  dsimp only at *
  go_enter Tryz.func98, Tryz.ntmps98
  go_wp2
  exact bodyPost_ret (results_cell_row Tryz.results98 _ _ (w.heap.size + 1 + 1) 75 _ (0, 0) _ rfl (vl_at w _ _ _) Tryz.underlying75 rfl info_vl) rfl ⟨by first | rfl | (rw [IntWalk.i64_left]; rfl), vl_all w _ _ _⟩
set_option maxHeartbeats 1000000 in
set_option maxRecDepth 100000 in
theorem opf4 (a b : Vl) (w : World) : Calls Tryz.prog 99 #[a.v, b.v] w fun e w' => e = .returned (opV 7 a b).v ∧ Below w.heap.size w w' := by
  obtain ⟨n, s, t⟩ := a
  obtain ⟨n', s', t'⟩ := b
  unfold Vl.v at *
  unfold opV
  rw [if_neg (by decide)]
  rw [if_neg (by decide)]
  rw [if_neg (by decide)]
  rw [if_pos rfl]
  dsimp only at *
  go_enter Tryz.func99, Tryz.ntmps99
  go_wp2
  exact bodyPost_ret (results_cell_row Tryz.results99 _ _ (w.heap.size + 1 + 1) 75 _ (0, 0) _ rfl (vl_at w _ _ _) Tryz.underlying75 rfl info_vl) rfl ⟨by first | rfl | (rw [IntWalk.i64_left]; rfl), vl_all w _ _ _⟩
set_option maxHeartbeats 1000000 in
set_option maxRecDepth 100000 in
theorem opf5 (a b : Vl) (w : World) : Calls Tryz.prog 100 #[a.v, b.v] w fun e w' => e = .returned (opV 8 a b).v ∧ Below w.heap.size w w' := by
  obtain ⟨n, s, t⟩ := a
  obtain ⟨n', s', t'⟩ := b
  unfold Vl.v at *
  unfold opV
  rw [if_neg (by decide)]
  rw [if_neg (by decide)]
  rw [if_neg (by decide)]
  rw [if_neg (by decide)]
  rw [if_pos rfl]
  dsimp only at *
  go_enter Tryz.func100, Tryz.ntmps100
  go_wp2
  exact bodyPost_ret (results_cell_row Tryz.results100 _ _ (w.heap.size + 1 + 1) 75 _ (0, 0) _ rfl (vl_at w _ _ _) Tryz.underlying75 rfl info_vl) rfl ⟨by first | rfl | (rw [IntWalk.i64_left]; rfl), vl_all w _ _ _⟩
set_option maxHeartbeats 1000000 in
set_option maxRecDepth 100000 in
theorem opf6 (a b : Vl) (w : World) : Calls Tryz.prog 101 #[a.v, b.v] w fun e w' => e = .returned (opV 9 a b).v ∧ Below w.heap.size w w' := by
  have q := fun W => eqVl 9998 a b W
  obtain ⟨n, s, t⟩ := a
  obtain ⟨n', s', t'⟩ := b
  unfold Vl.v at *
  unfold opV
  rw [if_neg (by decide)]
  rw [if_neg (by decide)]
  rw [if_neg (by decide)]
  rw [if_neg (by decide)]
  rw [if_neg (by decide)]
  rw [if_pos rfl]
  dsimp only at *
  go_enter Tryz.func101, Tryz.ntmps101
  go_wp2
  exact bodyPost_ret (results_cell_row Tryz.results101 _ _ (w.heap.size + 1 + 1) 75 _ (0, 0) _ rfl (vl_at w _ _ _) Tryz.underlying75 rfl info_vl) rfl ⟨by first | rfl | (rw [IntWalk.i64_left]; rfl), vl_all w _ _ _⟩
set_option maxHeartbeats 1000000 in
set_option maxRecDepth 100000 in
theorem opf7 (a b : Vl) (w : World) : Calls Tryz.prog 102 #[a.v, b.v] w fun e w' => e = .returned (opV 10 a b).v ∧ Below w.heap.size w w' := by
  have q := fun W => eqVl 9998 a b W
  obtain ⟨n, s, t⟩ := a
  obtain ⟨n', s', t'⟩ := b
  unfold Vl.v at *
  unfold opV
  rw [if_neg (by decide)]
  rw [if_neg (by decide)]
  rw [if_neg (by decide)]
  rw [if_neg (by decide)]
  rw [if_neg (by decide)]
  rw [if_neg (by decide)]
  rw [if_pos rfl]
  dsimp only at *
  go_enter Tryz.func102, Tryz.ntmps102
  go_wp2
  exact bodyPost_ret (results_cell_row Tryz.results102 _ _ (w.heap.size + 1 + 1) 75 _ (0, 0) _ rfl (vl_at w _ _ _) Tryz.underlying75 rfl info_vl) rfl ⟨by first | rfl | (rw [IntWalk.i64_left]; rfl), vl_all w _ _ _⟩
set_option maxHeartbeats 1000000 in
set_option maxRecDepth 100000 in
theorem opf8 (a b : Vl) (w : World) : Calls Tryz.prog 103 #[a.v, b.v] w fun e w' => e = .returned (opV 11 a b).v ∧ Below w.heap.size w w' := by
  obtain ⟨n, s, t⟩ := a
  obtain ⟨n', s', t'⟩ := b
  unfold Vl.v at *
  unfold opV
  rw [if_neg (by decide)]
  rw [if_neg (by decide)]
  rw [if_neg (by decide)]
  rw [if_neg (by decide)]
  rw [if_neg (by decide)]
  rw [if_neg (by decide)]
  rw [if_neg (by decide)]
  rw [if_pos rfl]
  dsimp only at *
  cases t
  all_goals
    go_enter Tryz.func103, Tryz.ntmps103
    go_wp2
    exact bodyPost_ret (results_cell_row Tryz.results103 _ _ (w.heap.size + 1 + 1) 75 _ (0, 0) _ rfl (vl_at w _ _ _) Tryz.underlying75 rfl info_vl) rfl ⟨by first | rfl | (rw [IntWalk.i64_left]; rfl), vl_all w _ _ _⟩
set_option maxHeartbeats 1000000 in
set_option maxRecDepth 100000 in
theorem opf9 (a b : Vl) (w : World) : Calls Tryz.prog 104 #[a.v, b.v] w fun e w' => e = .returned (opV 12 a b).v ∧ Below w.heap.size w w' := by
  obtain ⟨n, s, t⟩ := a
  obtain ⟨n', s', t'⟩ := b
  unfold Vl.v at *
  unfold opV
  rw [if_neg (by decide)]
  rw [if_neg (by decide)]
  rw [if_neg (by decide)]
  rw [if_neg (by decide)]
  rw [if_neg (by decide)]
  rw [if_neg (by decide)]
  rw [if_neg (by decide)]
  rw [if_neg (by decide)]
  rw [if_pos rfl]
  dsimp only at *
  cases t
  all_goals
    go_enter Tryz.func104, Tryz.ntmps104
    go_wp2
    exact bodyPost_ret (results_cell_row Tryz.results104 _ _ (w.heap.size + 1 + 1) 75 _ (0, 0) _ rfl (vl_at w _ _ _) Tryz.underlying75 rfl info_vl) rfl ⟨by first | rfl | (rw [IntWalk.i64_left]; rfl), vl_all w _ _ _⟩
set_option maxHeartbeats 1000000 in
set_option maxRecDepth 100000 in
theorem opf10 (a b : Vl) (w : World) : Calls Tryz.prog 105 #[a.v, b.v] w fun e w' => e = .returned (opV 13 a b).v ∧ Below w.heap.size w w' := by
  obtain ⟨n, s, t⟩ := a
  obtain ⟨n', s', t'⟩ := b
  unfold Vl.v at *
  unfold opV
  rw [if_neg (by decide)]
  rw [if_neg (by decide)]
  rw [if_neg (by decide)]
  rw [if_neg (by decide)]
  rw [if_neg (by decide)]
  rw [if_neg (by decide)]
  rw [if_neg (by decide)]
  rw [if_neg (by decide)]
  rw [if_neg (by decide)]
  dsimp only at *
  go_enter Tryz.func105, Tryz.ntmps105
  go_wp2
  exact bodyPost_ret (results_cell_row Tryz.results105 _ _ (w.heap.size + 1 + 1) 75 _ (0, 0) _ rfl (vl_at w _ _ _) Tryz.underlying75 rfl info_vl) rfl ⟨by first | rfl | (rw [IntWalk.i64_left]; rfl), vl_all w _ _ _⟩
end Go.Proofs.YthipclehhcfahabGreatDoor
namespace Go.Proofs.YthipclehhcfahabGreatDoor
open Go.RowKit

/-- Events lie where the slice says. -/
def EvsAt (w : World) (ad : Option Addr) (l : List Ev) : Prop := l ≠ [] → ∃ b off, ad = some ⟨b, off, none⟩ ∧ b < w.heap.size ∧ ∀ (i : Nat) (e : Ev), l[i]? = some e → ∀ (j : Nat) (u : Value), e.c[j]? = some u → w.cell? ⟨b, off + i * 7 + j, none⟩ = some u
theorem EvsAt.kp {F : List Nat} {w w' : World} {ad : Option Addr} {l : List Ev} (h : EvsAt w ad l) (hk : Kp F w w') (hF : ∀ b off, ad = some ⟨b, off, none⟩ → b ∉ F) : EvsAt w' ad l := fun hl => by
  obtain ⟨b, off, e, hlt, hc⟩ := h hl
  exact ⟨b, off, e, Nat.lt_of_lt_of_le hlt hk.size, fun i x hx j u hu => hk.cell (hc i x hx j u hu) (hF b off e)⟩
theorem EvsAt.seven {w : World} {ad : Option Addr} {l : List Ev} (h : EvsAt w ad l) (k : Nat) (hk : k < l.length) : ∃ b off, ad = some ⟨b, off, none⟩ ∧ w.cell? ⟨b, off + k * 7, none⟩ = some (.string l[k].k) ∧ w.cell? ⟨b, off + k * 7 + 1, none⟩ = some (.string l[k].t) ∧ w.cell? ⟨b, off + k * 7 + 2, none⟩ = some (.int .i64 l[k].n0) ∧ w.cell? ⟨b, off + k * 7 + 3, none⟩ = some (.int .i64 l[k].n1) ∧ w.cell? ⟨b, off + k * 7 + 4, none⟩ = some (.int .i64 l[k].n2) ∧ w.cell? ⟨b, off + k * 7 + 5, none⟩ = some (.int .i64 l[k].n3) ∧ w.cell? ⟨b, off + k * 7 + 6, none⟩ = some (.string l[k].x) := by
  obtain ⟨b, off, e, _, hc⟩ := h (by rintro rfl; simp at hk)
  have q := hc k l[k] (List.getElem?_eq_getElem hk)
  exact ⟨b, off, e, q 0 _ rfl, q 1 _ rfl, q 2 _ rfl, q 3 _ rfl, q 4 _ rfl, q 5 _ rfl, q 6 _ rfl⟩
end Go.Proofs.YthipclehhcfahabGreatDoor
namespace Go.Proofs.YthipclehhcfahabGreatDoor
open Go.RowKit Go.Shelf

/-- The moment's cells. -/
def moC (M : Mo) (nv lv : Value) : Array Value := #[.string M.e.k, .string M.e.t, .int .i64 M.e.n0, .int .i64 M.e.n1, .int .i64 M.e.n2, .int .i64 M.e.n3, .string M.e.x, nv, lv]
/-- The moment lies there. -/
structure MoAt (gm : Nat) (M : Mo) (an al : Option Addr) (cn cl : Nat) (W : World) : Prop where
  box : CBox gm (moC M (.slice an M.ns.length cn) (.slice al M.la.length cl)) 72 W
  nms : NmsAt W an M.ns
  evs : EvsAt W al M.la
  len : M.ns.length ≤ 9223372036854775807
  both : M.ns.length = M.la.length
theorem MoAt.below {gm : Nat} {M : Mo} {an al : Option Addr} {cn cl : Nat} {W W' : World} (h : MoAt gm M an al cn cl W) (hb : Below W.heap.size W W') : MoAt gm M an al cn cl W' :=
  ⟨h.box.kp (Kp.ofBelow hb) (by simp), h.nms.kp (Kp.ofBelow hb) (by simp), h.evs.kp (Kp.ofBelow hb) (by simp), h.len, h.both⟩
theorem emp_toList (s : ByteArray) : s.toList.isEmpty = emptyB s := emp_list s
theorem emp_str (s : ByteArray) : (s.toList == ([] : List UInt8)) = emptyB s := by
  rw [toList_data]
  unfold emptyB
  rw [Bool.eq_iff_iff, beq_iff_eq, beq_iff_eq]
  exact List.length_eq_zero_iff.symm
/-- A value written into its cells. -/
theorem vl_put {g : Nat} {t : TypeId} {a b c : Value} {w W : World} (h : CBox g #[a, b, c] t W) (hb : Below g w W) (x y z : Value) :
    CBox g #[x, y, z] t (((W.setCell ⟨g, 0, none⟩ x).setCell ⟨g, 1, none⟩ y).setCell ⟨g, 2, none⟩ z) ∧ Below g w (((W.setCell ⟨g, 0, none⟩ x).setCell ⟨g, 1, none⟩ y).setCell ⟨g, 2, none⟩ z) :=
  ⟨((h.set 0 x).set 1 y).set 2 z, ((hb.setCell (p := ⟨g, 0, none⟩) (Nat.le_refl _) _).setCell (p := ⟨g, 1, none⟩) (Nat.le_refl _) _).setCell (p := ⟨g, 2, none⟩) (Nat.le_refl _) _⟩
set_option maxHeartbeats 2000000 in
set_option maxRecDepth 100000 in
theorem fieldValue_any {gm : Nat} {M : Mo} {an al : Option Addr} {cn cl : Nat} {W : World} (h : MoAt gm M an al cn cl W) (st : ByteArray) (f : Int) (hf : 0 ≤ f ∧ f ≤ 5) (hs : emptyB st = true ∨ hasN M.ns st = true) :
    Calls Tryz.prog 59 #[.pointer (some ⟨gm, 0, none⟩), .string st, .int .i64 f] W fun e w' => e = .returned (fdV (M.at st) f).v ∧ Below W.heap.size W w' := by
  have hgm := (Array.getElem?_eq_some_iff.1 h.box).1
  have h0 := h.below ((Below.refl _ _).alloc (Nat.le_refl _) (.cells #[.int .i64 0, .string { data := #[] }, .bool false] 75))
  have bx : CBox W.heap.size #[.int .i64 0, .string { data := #[] }, .bool false] 75 (W.alloc (.cells #[.int .i64 0, .string { data := #[] }, .bool false] 75)) := CBox.new W _ _
  have hb0 : Below W.heap.size W (W.alloc (.cells #[.int .i64 0, .string { data := #[] }, .bool false] 75)) := (Below.refl _ _).alloc (Nat.le_refl _) _
  have HM := hide h0
  have HX := hide bx
  have HB := hide hb0
  clear h h0 bx hb0
  go_enter Tryz.func59, Tryz.ntmps59
  go_upto_if 12 with fail
  generalize W.alloc (.cells #[.int .i64 0, .string { data := #[] }, .bool false] 75) = W1 at *
  go_cut [7] (fun p wc => ∃ b o, p = .pointer (some ⟨b, o, none⟩) ∧ Hid (wc.cell? ⟨b, o + 1, none⟩ = some (.string (M.at st).t) ∧ wc.cell? ⟨b, o + 2, none⟩ = some (.int .i64 (M.at st).n0) ∧ wc.cell? ⟨b, o + 3, none⟩ = some (.int .i64 (M.at st).n1) ∧ wc.cell? ⟨b, o + 4, none⟩ = some (.int .i64 (M.at st).n2) ∧ wc.cell? ⟨b, o + 5, none⟩ = some (.int .i64 (M.at st).n3) ∧ wc.cell? ⟨b, o + 6, none⟩ = some (.string (M.at st).x)) ∧ Hid (CBox W.heap.size #[.int .i64 0, .string { data := #[] }, .bool false] 75 wc ∧ Below W.heap.size W wc))
  case first =>
    by_cases he : emptyB st = true
    · have g1 : st.toList.isEmpty = true := by rw [emp_toList]; exact he
      have g2 : (st.toList == ([] : List UInt8)) = true := by rw [emp_str]; exact he
      have e : M.at st = M.e := by unfold Mo.at; rw [if_pos he]
      have bx := (unhide HM).box
      have HC : Hid (W1.cell? ⟨gm, 0 + 1, none⟩ = some (.string (M.at st).t) ∧ W1.cell? ⟨gm, 0 + 2, none⟩ = some (.int .i64 (M.at st).n0) ∧ W1.cell? ⟨gm, 0 + 3, none⟩ = some (.int .i64 (M.at st).n1) ∧ W1.cell? ⟨gm, 0 + 4, none⟩ = some (.int .i64 (M.at st).n2) ∧ W1.cell? ⟨gm, 0 + 5, none⟩ = some (.int .i64 (M.at st).n3) ∧ W1.cell? ⟨gm, 0 + 6, none⟩ = some (.string (M.at st).x)) := by rw [e]; exact hide ⟨bx.cell rfl, bx.cell rfl, bx.cell rfl, bx.cell rfl, bx.cell rfl, bx.cell rfl⟩
      clear he e bx HM hs
      rw [g1]
      go_wp2
      go_meet
      exact ⟨gm, 0, rfl, HC, hide ⟨unhide HX, unhide HB⟩⟩
    · have he' : emptyB st = false := by simpa using he
      have g1 : st.toList.isEmpty = false := by rw [emp_toList]; exact he'
      have g2 : (st.toList == ([] : List UInt8)) = false := by rw [emp_str]; exact he'
      have hin : fstN st M.ns < M.ns.length := by
        rcases hs with hs | hs
        · exact absurd hs he
        · unfold hasN at hs; exact of_decide_eq_true hs
      have e : M.at st = M.la[fstN st M.ns]'(by rw [← (unhide HM).both]; exact hin) := by
        unfold Mo.at
        rw [if_neg he, List.getD_eq_getElem?_getD, List.getElem?_eq_getElem (by rw [← (unhide HM).both]; exact hin)]
        rfl
      obtain ⟨b, o, rfl, q0, q1, q2, q3, q4, q5, q6⟩ := (unhide HM).evs.seven (fstN st M.ns) (by rw [← (unhide HM).both]; exact hin)
      rw [← e] at q1 q2 q3 q4 q5 q6
      have HC : Hid (W1.drew.cell? ⟨b, o + fstN st M.ns * 7 + 1, none⟩ = some (.string (M.at st).t) ∧ W1.drew.cell? ⟨b, o + fstN st M.ns * 7 + 2, none⟩ = some (.int .i64 (M.at st).n0) ∧ W1.drew.cell? ⟨b, o + fstN st M.ns * 7 + 3, none⟩ = some (.int .i64 (M.at st).n1) ∧ W1.drew.cell? ⟨b, o + fstN st M.ns * 7 + 4, none⟩ = some (.int .i64 (M.at st).n2) ∧ W1.drew.cell? ⟨b, o + fstN st M.ns * 7 + 5, none⟩ = some (.int .i64 (M.at st).n3) ∧ W1.drew.cell? ⟨b, o + fstN st M.ns * 7 + 6, none⟩ = some (.string (M.at st).x)) := hide ⟨q1, q2, q3, q4, q5, q6⟩
      have IX := hide (index_any an cn M.ns st W1.drew (unhide HM).len ((unhide HM).nms.kp (Kp.drew W1) (by simp)) hin)
      have bx := (unhide HM).box
      have c7 : W1.drew.cell? ⟨gm, 7, none⟩ = some (.slice an M.ns.length cn) := bx.cell rfl
      have c8 : W1.drew.cell? ⟨gm, 8, none⟩ = some (.slice (some ⟨b, o, none⟩) M.la.length cl) := bx.cell rfl
      have cS := And.intro c7 c8
      have hil : ((fstN st M.ns : Nat) : Int) < ((M.la.length : Nat) : Int) := by have := (unhide HM).both; omega
      have HX2 : Hid (CBox W.heap.size #[.int .i64 0, .string { data := #[] }, .bool false] 75 W1.drew ∧ Below W.heap.size W W1.drew) := hide ⟨unhide HX, (unhide HB).drew⟩
      have hln := (unhide HM).len
      clear q0 q1 q2 q3 q4 q5 q6
      clear e
      clear he he' bx HM hs hin c7 c8 HX HB
      rw [g1]
      generalize fstN st M.ns = I at *
      generalize M.ns.length = NL at *
      generalize M.la.length = LL at *
      generalize M.at st = EV at *
      go_wp2_with fail
      go_region_held3 (fun w' => w'.cell? ⟨gm, 7, none⟩ = some (.slice an NL cn) ∧ w'.cell? ⟨gm, 8, none⟩ = some (.slice (some ⟨b, o, none⟩) LL cl))
        (first | with_reducible exact cS)
        (first | (go_at_call 108; refine (unhide IX).mono ?_; rintro e w2 ⟨rfl, rfl⟩))
      go_wp2
      go_meet
      exact ⟨b, _, rfl, HC, HX2⟩
  case rest =>
    obtain ⟨b, o, rfl, HC, HXB⟩ := hcut
    obtain ⟨c1, c2, c3, c4, c5, c6⟩ := unhide HC
    obtain ⟨bx, hb⟩ := unhide HXB
    have z0 := bx.cell (i := 0) (v := .int .i64 0) rfl
    have z1 := bx.cell (i := 1) (v := .string { data := #[] }) rfl
    have z2 := bx.cell (i := 2) (v := .bool false) rfl
    have fz := bx.froz
    have hlt := (Array.getElem?_eq_some_iff.1 bx).1
    have HXX := hide (vl_put bx hb)
    clear hb bx HXB HC HM HX HB
    obtain ⟨EV, hEV⟩ : ∃ EV, M.at st = EV := ⟨_, rfl⟩
    rw [hEV] at c1 c2 c3 c4 c5 c6
    have HEV := hide hEV
    clear hEV
    generalize wc = WC at *
    rcases (show f = 0 ∨ f = 1 ∨ f = 2 ∨ f = 3 ∨ f = 4 ∨ f = 5 by omega) with rfl | rfl | rfl | rfl | rfl | rfl
    all_goals
      go_wp2
      exact bodyPost_ret (results_cell_row Tryz.results59 _ _ W.heap.size 75 _ (0, 0) _ rfl (unhide HXX _ _ _).1 Tryz.underlying75 rfl info_vl) rfl ⟨by rw [unhide HEV]; rfl, (unhide HXX _ _ _).2⟩
end Go.Proofs.YthipclehhcfahabGreatDoor
