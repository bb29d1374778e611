/-
  shapeOf: the kind and the depth of a part and its sides.
  readWord, readNumber, readText, readSign and read: what bytes begin with, as the plain function has it.
-/
import Derived.Test.YtogklmljllocbabGreatDoorF11
import Derived.Laws.Rows
import Derived.Test.YtogklmljllocbabGreatDoorF07
import Derived.Lib.AtoiErrMem
import Derived.Shelf.Strconv.ErrVarParseInt
namespace Go.Proofs.YtogklmljllocbabGreatDoor
open Go.RowKit

def Sh.ok (a : Sh) : Prop := (0 ≤ a.kd ∧ a.kd ≤ 3) ∧ 0 ≤ a.dp ∧ a.dp ≤ 1000000
/-- The sides that count. -/
def takeS {α : Type} (n : Nat) (a b : α) : List α := if n = 0 then [] else if n = 1 then [a] else [a, b]
theorem ck_hit {p : Pt} {a b : Sh} (h : sds p.kd ≠ 0) (hb : sds p.kd = 1 → b = ⟨0, 0⟩) : shp p (takeS (sds p.kd) a b) = ⟨if bareP p then opK p.kd a.kd b.kd else 0, 1 + max a.dp b.dp⟩ := by
  have h2 := sds_le p.kd
  unfold takeS
  rcases (show sds p.kd = 1 ∨ sds p.kd = 2 by omega) with e | e
  · rw [e, hb e, if_neg (by omega), if_pos rfl]
    rfl
  · rw [e, if_neg (by omega), if_neg (by omega)]
    rfl
theorem max_ite (a b : Int) : (if a < b then b else a) = max a b := by split <;> omega
theorem info_shape : (Tryz.prog.info? 142).map (·.size) = some 2 := by kernel_rfl
theorem CBox.cells2 {g : Nat} {a b : Value} {t : TypeId} {w : World} (h : CBox g #[a, b] t w) : w.cell? ⟨g, 0, none⟩ = some a ∧ w.cell? ⟨g, 1, none⟩ = some b := ⟨h.cell rfl, h.cell rfl⟩
theorem sh_box {w w1 : World} {A B C : Obj} {a b : Value} {t : TypeId} (hb : Below ((((w.alloc A).alloc B).alloc C).alloc (.cells #[a, b] t)).heap.size ((((w.alloc A).alloc B).alloc C).alloc (.cells #[a, b] t)) w1) : CBox (w.heap.size + 3) #[a, b] t w1 := by
  have h := CBox.new (((w.alloc A).alloc B).alloc C) #[a, b] t
  rw [show (((w.alloc A).alloc B).alloc C).heap.size = w.heap.size + 3 by simp] at h
  unfold CBox
  rw [hb.block _ (by simp)]
  exact h
theorem sh_below {w w1 : World} {A B C D : Obj} (hb : Below ((((w.alloc A).alloc B).alloc C).alloc D).heap.size ((((w.alloc A).alloc B).alloc C).alloc D) w1) : Below w.heap.size w w1 :=
  (((((Below.refl _ _).alloc (Nat.le_refl _) _).alloc (by simp) _).alloc (by simp; omega) _).alloc (by simp; omega) _).trans (hb.mono (by simp; omega))
set_option maxHeartbeats 2000000 in
set_option maxRecDepth 100000 in
theorem shapeOf_leaf (p : Pt) (a b : Sh) (w : World) (hT : TbE w) (hf : p.fit) (h0 : sds p.kd = 0) : Calls Tryz.prog 85 #[p.v, .agg (rowC p.kd), .agg #[.int .i64 a.kd, .int .i64 a.dp, .int .i64 b.kd, .int .i64 b.dp]] w fun e w' => e = .returned (.agg #[.int .i64 (lfK p), .int .i64 1]) ∧ Below w.heap.size w w' := by
  have LK := hide (fun W hW => leafKind_any p W hW hf)
  unfold rowC
  rw [h0]
  have hone := fnO_one p.kd
  generalize fnO p.kd = F at *
  generalize txt (sgO p.kd) = S at *
  generalize ofO p.kd = O at *
  generalize isO p.kd = I at *
  generalize lfK p = K at *
  clear hf h0
  unfold Pt.v at *
  have HT := hide hT
  clear hT
  go_enter Tryz.func85, Tryz.ntmps85
  go_wp2_with fail
  refine (unhide LK _ ((((unhide HT).alloc _).alloc _).alloc _ |>.alloc _)).mono ?_
  rintro e w1 ⟨rfl, hb⟩
  have hbx := sh_box hb
  obtain ⟨c0, c1⟩ := hbx.cells2
  have z0 := hbx.froz 0
  have z1 := hbx.froz 1
  have HE : Hid (CBox (w.heap.size + 3) #[.int .i64 K, .int .i64 1] 142 ((w1.setCell ⟨w.heap.size + 3, 0, none⟩ (.int .i64 K)).setCell ⟨w.heap.size + 3, 1, none⟩ (.int .i64 1)) ∧ Below w.heap.size w ((w1.setCell ⟨w.heap.size + 3, 0, none⟩ (.int .i64 K)).setCell ⟨w.heap.size + 3, 1, none⟩ (.int .i64 1))) := hide ⟨(hbx.set 0 _).set 1 _, ((sh_below hb).setCell (p := ⟨w.heap.size + 3, 0, none⟩) (by show w.heap.size ≤ w.heap.size + 3; omega) _).setCell (p := ⟨w.heap.size + 3, 1, none⟩) (by show w.heap.size ≤ w.heap.size + 3; omega) _⟩
  clear hb hbx
  go_wp2
  obtain ⟨hx, hy⟩ := unhide HE
  exact bodyPost_ret (results_cell_row Tryz.results85 _ _ (w.heap.size + 3) 142 _ (0, 0) _ rfl hx Tryz.underlying142 rfl info_shape) rfl ⟨rfl, hy⟩
theorem sh_at (w : World) (A B C D X : Obj) : (((((w.alloc A).alloc B).alloc C).alloc X).alloc D).heap[w.heap.size + 1 + 1 + 1]? = some X := by
  rw [Below.heap_alloc _ _ _ (by simp)]
  have := heap_alloc_new (((w.alloc A).alloc B).alloc C) X
  rwa [show (((w.alloc A).alloc B).alloc C).heap.size = w.heap.size + 1 + 1 + 1 by simp] at this
theorem sh_all (w : World) (A B C D X : Obj) : Below w.heap.size w (((((w.alloc A).alloc B).alloc C).alloc X).alloc D) :=
  (((((Below.refl _ _).alloc (Nat.le_refl _) _).alloc (by simp) _).alloc (by simp; omega) _).alloc (by simp; omega) _).alloc (by simp; omega) _
theorem sh_left {w W : World} {A C : Obj} {o0 o1 o2 o3 o4 r0 r1 s0 s1 : Value} {t t' t'' : TypeId} (hk : Kp [] (((((w.alloc A).alloc (.cells #[o0, o1, o2, o3, o4] t)).alloc C).alloc (.cells #[r0, r1] t')).alloc (.cells #[s0, s1] t'')) W) :
    W.cell? ⟨w.heap.size + 1, 3, none⟩ = some o3 ∧ W.cell? ⟨w.heap.size + 1 + 1 + 1, 0, none⟩ = some r0 ∧ W.cell? ⟨w.heap.size + 1 + 1 + 1, 1, none⟩ = some r1 ∧ W.cell? ⟨w.heap.size + 1 + 1 + 1 + 1, 0, none⟩ = some s0 ∧ W.cell? ⟨w.heap.size + 1 + 1 + 1 + 1, 1, none⟩ = some s1 ∧ (∀ i, W.frozen? ⟨w.heap.size + 1 + 1 + 1, i, none⟩ = false) ∧ (∀ i, W.frozen? ⟨w.heap.size + 1 + 1 + 1 + 1, i, none⟩ = false) ∧ w.heap.size + 1 + 1 + 1 + 1 < W.heap.size ∧ Hid (CBox (w.heap.size + 1 + 1 + 1) #[r0, r1] t' W ∧ CBox (w.heap.size + 1 + 1 + 1 + 1) #[s0, s1] t'' W ∧ Below w.heap.size w W) := by
  have hb := hk.below (Nat.le_refl _) (by simp)
  have h1 : CBox (w.heap.size + 1) #[o0, o1, o2, o3, o4] t W := by
    unfold CBox
    rw [hb.block _ (by simp), Below.heap_alloc _ _ _ (by simp), Below.heap_alloc _ _ _ (by simp), Below.heap_alloc _ _ _ (by simp)]
    have := heap_alloc_new (w.alloc A) (.cells #[o0, o1, o2, o3, o4] t)
    rwa [show (w.alloc A).heap.size = w.heap.size + 1 by simp] at this
  have h2 : CBox (w.heap.size + 1 + 1 + 1) #[r0, r1] t' W := by
    unfold CBox
    rw [hb.block _ (by simp)]
    exact sh_at w A _ C _ _
  have h3 : CBox (w.heap.size + 1 + 1 + 1 + 1) #[s0, s1] t'' W := by
    unfold CBox
    rw [hb.block _ (by simp)]
    have := heap_alloc_new ((((w.alloc A).alloc (.cells #[o0, o1, o2, o3, o4] t)).alloc C).alloc (.cells #[r0, r1] t')) (.cells #[s0, s1] t'')
    rwa [show ((((w.alloc A).alloc (.cells #[o0, o1, o2, o3, o4] t)).alloc C).alloc (.cells #[r0, r1] t')).heap.size = w.heap.size + 1 + 1 + 1 + 1 by simp] at this
  refine ⟨h1.cell rfl, h2.cell rfl, h2.cell rfl, h3.cell rfl, h3.cell rfl, h2.froz, h3.froz, ?_, hide ⟨h2, h3, (sh_all w _ _ _ _ _).trans (hb.mono (by simp; omega))⟩⟩
  have := hk.size
  simp at this
  omega
theorem sh_end2 {w W : World} {r0 r1 s0 s1 : Value} {t t' : TypeId} (h : CBox (w.heap.size + 1 + 1 + 1) #[r0, r1] t W ∧ CBox (w.heap.size + 1 + 1 + 1 + 1) #[s0, s1] t' W ∧ Below w.heap.size w W) (x y : Int) :
    CBox (w.heap.size + 1 + 1 + 1) #[.int .i64 x, .int .i64 y] t ((W.setCell ⟨w.heap.size + 1 + 1 + 1, 0, none⟩ (.int .i64 x)).setCell ⟨w.heap.size + 1 + 1 + 1, 1, none⟩ (.int .i64 y)) ∧ Below w.heap.size w ((W.setCell ⟨w.heap.size + 1 + 1 + 1, 0, none⟩ (.int .i64 x)).setCell ⟨w.heap.size + 1 + 1 + 1, 1, none⟩ (.int .i64 y)) :=
  ⟨(h.1.set 0 _).set 1 _, (h.2.2.setCell (p := ⟨w.heap.size + 1 + 1 + 1, 0, none⟩) (by show w.heap.size ≤ w.heap.size + 1 + 1 + 1; omega) _).setCell (p := ⟨w.heap.size + 1 + 1 + 1, 1, none⟩) (by show w.heap.size ≤ w.heap.size + 1 + 1 + 1; omega) _⟩
theorem sh_end1 {w W : World} {r0 r1 s0 s1 : Value} {t t' : TypeId} (h : CBox (w.heap.size + 1 + 1 + 1) #[r0, r1] t W ∧ CBox (w.heap.size + 1 + 1 + 1 + 1) #[s0, s1] t' W ∧ Below w.heap.size w W) (z x y : Int) :
    CBox (w.heap.size + 1 + 1 + 1) #[.int .i64 x, .int .i64 y] t (((W.setCell ⟨w.heap.size + 1 + 1 + 1 + 1, 0, none⟩ (.int .i64 z)).setCell ⟨w.heap.size + 1 + 1 + 1, 0, none⟩ (.int .i64 x)).setCell ⟨w.heap.size + 1 + 1 + 1, 1, none⟩ (.int .i64 y)) ∧ Below w.heap.size w (((W.setCell ⟨w.heap.size + 1 + 1 + 1 + 1, 0, none⟩ (.int .i64 z)).setCell ⟨w.heap.size + 1 + 1 + 1, 0, none⟩ (.int .i64 x)).setCell ⟨w.heap.size + 1 + 1 + 1, 1, none⟩ (.int .i64 y)) :=
  sh_end2 (W := W.setCell ⟨w.heap.size + 1 + 1 + 1 + 1, 0, none⟩ (.int .i64 z)) ⟨h.1.kp (Kp.set _ _ _ _) (by simp), h.2.1.set 0 _, h.2.2.setCell (p := ⟨w.heap.size + 1 + 1 + 1 + 1, 0, none⟩) (by show w.heap.size ≤ w.heap.size + 1 + 1 + 1 + 1; omega) _⟩ x y
set_option maxHeartbeats 2000000 in
set_option maxRecDepth 100000 in
theorem shapeOf_op (p : Pt) (a b : Sh) (w : World) (h4 : 4 ≤ p.kd) (h13 : p.kd ≤ 13) (ha : a.ok) (hb : b.ok) (hz : p.kd = 13 → b = ⟨0, 0⟩) : Calls Tryz.prog 85 #[p.v, .agg (rowC p.kd), .agg #[.int .i64 a.kd, .int .i64 a.dp, .int .i64 b.kd, .int .i64 b.dp]] w fun e w' => e = .returned (.agg #[.int .i64 (if bareP p then opK p.kd a.kd b.kd else 0), .int .i64 (1 + max a.dp b.dp)]) ∧ Below w.heap.size w w' := by
  have FT := hide (fun W => fits_any (txt (sgO p.kd)) (fnO p.kd) p.kd a.kd b.kd W h4 h13 ha.1.1 ha.1.2 (fun e => by rw [hz e]))
  have q := fun W => eqP 9998 p (opP p.kd) W
  rw [eqPk] at q
  rw [opK_fit]
  have hone := fnO_one p.kd
  have hs0 : ((sds p.kd : Nat) : Int) ≠ 0 := by
    unfold sds
    split
    · omega
    · rw [if_pos (by omega)]; omega
  unfold rowC
  generalize fnO p.kd = F at *
  generalize txt (sgO p.kd) = S at *
  generalize ofO p.kd = O at *
  generalize isO p.kd = I at *
  generalize sds p.kd = N at *
  generalize fitB p.kd a.kd b.kd = fb at *
  generalize bareP p = bp at *
  obtain ⟨ak, ad⟩ := a
  obtain ⟨bk, bd⟩ := b
  obtain ⟨_, ha1, ha2⟩ := ha
  obtain ⟨_, hb1, hb2⟩ := hb
  clear hz h4 h13
  obtain ⟨kd, n, s, st, fl⟩ := p
  unfold Pt.v opP txt at *
  dsimp only at *
  have g0 : ((N : Int) == 0) = false := beq_eq_false_iff_ne.2 hs0
  clear hs0
  cases bp with
  | false =>
    go_enter Tryz.func85, Tryz.ntmps85
    go_wp2
    all_goals exact bodyPost_ret (results_cell_row Tryz.results85 _ _ (w.heap.size + 1 + 1 + 1) 142 _ (0, 0) _ rfl (sh_at w _ _ _ _ _) Tryz.underlying142 rfl info_shape) rfl ⟨rfl, sh_all w _ _ _ _ _⟩
  | true =>
    have HL := hide (fun W1 (hk : Kp [] (((((w.alloc (.cells #[.int .i64 kd, .int .i64 n, .string s, .string st, .int .i64 fl] 89)).alloc (.cells #[.string S, .int .i64 (N : Int), .int .u64 O, .int .i64 I, F] 150)).alloc (.cells #[.int .i64 ak, .int .i64 ad, .int .i64 bk, .int .i64 bd] 232)).alloc (.cells #[.int .i64 0, .int .i64 0] 142)).alloc (.cells #[.int .i64 0, .int .i64 (1 + max ad bd)] 142)) W1) => sh_left hk)
    go_enter Tryz.func85, Tryz.ntmps85
    go_wp2_with (go_at_call 154; refine (unhide FT _).mono ?_; rintro e w1 ⟨rfl, hk⟩; obtain ⟨i3, b0, b1, e0, e1, f0, f1, g0', HB⟩ := unhide HL w1 hk; clear hk HL FT)
    all_goals first
      | exact bodyPost_ret (results_cell_row Tryz.results85 _ _ (w.heap.size + 1 + 1 + 1) 142 _ (0, 0) _ rfl (sh_end1 (unhide HB) I I (1 + max ad bd)).1 Tryz.underlying142 rfl info_shape) rfl ⟨rfl, (sh_end1 (unhide HB) I I (1 + max ad bd)).2⟩
      | exact bodyPost_ret (results_cell_row Tryz.results85 _ _ (w.heap.size + 1 + 1 + 1) 142 _ (0, 0) _ rfl (sh_end2 (unhide HB) 0 (1 + max ad bd)).1 Tryz.underlying142 rfl info_shape) rfl ⟨rfl, (sh_end2 (unhide HB) 0 (1 + max ad bd)).2⟩
/-- The kind and the depth of a part and its sides. -/
theorem shapeOf_any (p : Pt) (a b : Sh) (w : World) (hT : TbE w) (hf : p.fit) (ha : a.ok) (hb : b.ok) (hz : sds p.kd = 1 → b = ⟨0, 0⟩) : Calls Tryz.prog 85 #[p.v, .agg (rowC p.kd), .agg #[.int .i64 a.kd, .int .i64 a.dp, .int .i64 b.kd, .int .i64 b.dp]] w fun e w' => e = .returned (.agg #[.int .i64 (shp p (takeS (sds p.kd) a b)).kd, .int .i64 (shp p (takeS (sds p.kd) a b)).dp]) ∧ Below w.heap.size w w' := by
  by_cases h0 : sds p.kd = 0
  · rw [h0]
    exact shapeOf_leaf p a b w hT hf h0
  · rw [ck_hit h0 hz]
    have hk : 4 ≤ p.kd ∧ p.kd ≤ 13 := by
      have := sds_le p.kd
      rcases (show sds p.kd = 1 ∨ sds p.kd = 2 by omega) with e | e
      · have := sds_one e; omega
      · have := sds_two e; omega
    exact shapeOf_op p a b w hk.1 hk.2 ha hb (fun e => hz (by rw [e]; rfl))
end Go.Proofs.YtogklmljllocbabGreatDoor
namespace Go.Proofs.YtogklmljllocbabGreatDoor
open Go.RowKit

def Tk.v (t : Tk) : Value := .agg #[.int .i64 t.kd, .string t.s, .int .i64 t.n, .int .i64 t.pl]
/-- What read tells. -/
def rdV : Option (Tk × Nat) → Value
  | none => .tuple #[.agg #[.int .i64 0, .string ⟨#[]⟩, .int .i64 0, .int .i64 0], .int .i64 0]
  | some (t, n) => .tuple #[t.v, .int .i64 n]
theorem ext_to (s : ByteArray) (n : Nat) : s.extract 0 n = txt (s.data.toList.take n) := by
  apply ByteArray.ext
  apply Array.ext'
  rw [ByteArray.data_extract, Array.toList_extract, List.extract_eq_take_drop]
  simp [txt]
theorem ext_from (s : ByteArray) (n : Nat) : s.extract n s.size = txt (s.data.toList.drop n) := by
  apply ByteArray.ext
  apply Array.ext'
  rw [ByteArray.data_extract, Array.toList_extract, List.extract_eq_take_drop, List.take_of_length_le (by rw [List.length_drop, Array.length_toList]; exact Nat.le_refl _)]
  simp [txt]
theorem size_list (s : ByteArray) : s.data.toList.length = s.size := Array.length_toList
set_option maxHeartbeats 1000000 in
theorem readWord_any (s : ByteArray) (w : World) (hT : TbW w) (hs : s.size ≤ 9223372036854775807) :
    Calls Tryz.prog 115 #[.string s] w fun e w' => e = .returned (rdV (tkW s.data.toList)) ∧ Below w.heap.size w w' := by
  have hle := spn_le isAln s.data.toList
  rw [size_list] at hle
  have HQ : Hid (tkW s.data.toList = if 32 < spn isAln s.data.toList then none else some (⟨1, s.extract 0 (spn isAln s.data.toList), 0, 0⟩, spn isAln s.data.toList)) := by
    refine hide ?_
    rw [ext_to]
    rfl
  have SP := fun W hW => span_any s 12 isAln cls_aln W hW hs
  generalize spn isAln s.data.toList = n at *
  generalize tkW s.data.toList = Q at *
  have HSP := hide SP
  clear SP
  by_cases h : 32 < n
  · have hq := unhide HQ
    rw [if_pos h] at hq
    subst hq
    clear HQ
    go_enter Tryz.func115, Tryz.ntmps115
    go_wp2_with fail
    refine (unhide HSP _ (hT.alloc _)).mono ?_
    rintro e w1 ⟨rfl, rfl⟩
    go_wp2
    exact bodyPost_ret (v := rdV none) (by simp [results, Tryz.results115, go_sem, rdV]) rfl ⟨rfl, (Below.refl _ _).alloc (Nat.le_refl _) _⟩
  · have hq := unhide HQ
    rw [if_neg h] at hq
    subst hq
    clear HQ
    go_enter Tryz.func115, Tryz.ntmps115
    go_wp2_with fail
    refine (unhide HSP _ (hT.alloc _)).mono ?_
    rintro e w1 ⟨rfl, rfl⟩
    go_wp2
    exact bodyPost_ret (v := rdV (some (⟨1, s.extract 0 n, 0, 0⟩, n))) (by simp [results, Tryz.results115, go_sem, rdV, Tk.v]) rfl ⟨rfl, (Below.refl _ _).alloc (Nat.le_refl _) _⟩
set_option maxHeartbeats 1000000 in
theorem readNumber_none (s : ByteArray) (w : World) (hT : TbW w) (h0 : 0 < s.size) (hs : s.size ≤ 9223372036854775807) (hz : s[0].toNat = 48) (hn : 1 < spn isDig s.data.toList) :
    Calls Tryz.prog 116 #[.string s] w fun e w' => e = .returned (rdV none) ∧ Below w.heap.size w w' := by
  have SP := fun W hW => span_any s 8 isDig cls_dig W hW hs
  generalize spn isDig s.data.toList = n at *
  have HSP := hide SP
  have g : ((s[0].toNat : Int) == 48) = true := by simp [hz]
  clear SP
  go_enter Tryz.func116, Tryz.ntmps116
  go_wp2_with fail
  refine (unhide HSP _ (hT.alloc _)).mono ?_
  rintro e w1 ⟨rfl, rfl⟩
  go_wp2
  exact bodyPost_ret (v := rdV none) (by simp [results, Tryz.results116, go_sem, rdV]) rfl ⟨rfl, (Below.refl _ _).alloc (Nat.le_refl _) _⟩
theorem parse_ok (s : ByteArray) (w : World) (hd : ∀ x ∈ s.data.toList, isDig x = true) (h0 : s.data.toList ≠ []) (hs : s.size ≤ 281474976710656) (h : ¬ 9223372036854775807 < dvl 0 s.data.toList) :
    Calls Tryz.prog 182 #[.string s, .int .i64 10, .int .i64 64] w fun e w' => e = .returned (.tuple #[.int .i64 (dvl 0 s.data.toList : Nat), .nilIface]) ∧ Below w.heap.size w w' := by
  have e := dvl_int _ hd h0
  rw [if_neg h] at e
  refine (Tryz.strconv_ParseInt_10_at64_ok s (by omega) _ e w).mono ?_
  rintro e w' ⟨rfl, rfl | ⟨t, rfl⟩⟩
  · exact ⟨rfl, Below.refl _ _⟩
  · exact ⟨rfl, Lib.bytesWorld_below _ _ _⟩
theorem parse_big (s : ByteArray) (w : World) (hT : TbW w) (hd : ∀ x ∈ s.data.toList, isDig x = true) (h0 : s.data.toList ≠ []) (hs : s.size ≤ 281474976710656) (h : 9223372036854775807 < dvl 0 s.data.toList) :
    Calls Tryz.prog 182 #[.string s, .int .i64 10, .int .i64 64] w fun e w' => ∃ x tp p, e = .returned (.tuple #[.int .i64 x, .iface tp p]) ∧ Below w.heap.size w w' := by
  have e := dvl_int _ hd h0
  rw [if_pos h] at e
  obtain ⟨tp, p, hc⟩ := hT.rng
  refine (Tryz.strconv_ParseInt_10_at64_range s hs e _ w hc (Or.inr ⟨_, _, rfl⟩)).mono ?_
  rintro e w' ⟨N, rfl, _, _, hb⟩
  exact ⟨_, _, _, rfl, hb⟩
set_option maxHeartbeats 2000000 in
theorem readNumber_some (s : ByteArray) (w : World) (hT : TbW w) (h0 : 0 < s.size) (hs : s.size ≤ 140737488351232) (hz : ¬ (s[0].toNat = 48 ∧ 1 < spn isDig s.data.toList)) (h1 : 1 ≤ spn isDig s.data.toList) :
    Calls Tryz.prog 116 #[.string s] w fun e w' => e = .returned (rdV (if 9223372036854775807 < dvl 0 (s.data.toList.take (spn isDig s.data.toList)) then none else some (⟨2, txt [], (dvl 0 (s.data.toList.take (spn isDig s.data.toList)) : Nat), 0⟩, spn isDig s.data.toList))) ∧ Below w.heap.size w w' := by
  have SP := fun W hW => span_any s 8 isDig cls_dig W hW (by omega)
  have hle := spn_le isDig s.data.toList
  rw [size_list] at hle
  have hd : ∀ x ∈ s.data.toList.take (spn isDig s.data.toList), isDig x = true := spn_mem
  generalize spn isDig s.data.toList = n at *
  have he : (s.extract 0 n).data.toList = s.data.toList.take n := by rw [ext_to]; rfl
  have hne : s.data.toList.take n ≠ [] := by
    intro e
    have := congrArg List.length e
    rw [List.length_take, size_list] at this
    simp only [List.length_nil] at this
    omega
  have hsz : (s.extract 0 n).size ≤ 281474976710656 := by rw [ByteArray.size_extract]; omega
  rw [← he] at hd hne ⊢
  have HSP := hide SP
  have HD := hide hd
  have HNE := hide hne
  clear SP hd hne he
  have HZ : Hid (((s[0].toNat : Int) == 48) = false ∨ (((s[0].toNat : Int) == 48) = true ∧ n ≤ 1)) := by
    refine hide ?_
    by_cases h : s[0].toNat = 48
    · exact Or.inr ⟨by simp [h], by omega⟩
    · exact Or.inl (by simp; omega)
  have HS := hide hsz
  clear hz hsz
  by_cases hv : 9223372036854775807 < dvl 0 (s.extract 0 n).data.toList
  · rw [if_pos hv]
    have HV := hide hv
    clear hv
    rcases unhide HZ with hz | ⟨hz, hn1⟩
    · go_enter Tryz.func116, Tryz.ntmps116
      go_wp2_with fail
      refine (unhide HSP _ (hT.alloc _)).mono ?_
      rintro e w1 ⟨rfl, rfl⟩
      go_wp2_with fail
      refine (parse_big (s.extract 0 n) _ (hT.alloc _) (unhide HD) (unhide HNE) (unhide HS) (unhide HV)).mono ?_
      rintro e w1 ⟨x, tp, p, rfl, hb⟩
      have hb0 : Below w.heap.size w w1 := ((Below.refl _ _).alloc (Nat.le_refl _) _).trans (hb.mono (by simp))
      have q : w1.heap[w.heap.size]? = some (.cells #[.int .i64 0, .string ⟨#[]⟩, .int .i64 0, .int .i64 0] 82 (0, 0)) := by rw [hb.block _ (by simp)]; exact heap_alloc_new w _
      have q0 := CBox.cell (i := 0) (v := .int .i64 0) q rfl
      have q1 := CBox.cell (i := 1) (v := .string ⟨#[]⟩) q rfl
      have q2 := CBox.cell (i := 2) (v := .int .i64 0) q rfl
      have q3 := CBox.cell (i := 3) (v := .int .i64 0) q rfl
      have f0 := CBox.froz q 0
      have f1 := CBox.froz q 1
      have f2 := CBox.froz q 2
      have f3 := CBox.froz q 3
      have HB0 := hide hb0
      clear hb hb0 q
      go_wp2
      exact bodyPost_ret (v := rdV none) (by simp [results, Tryz.results116, go_sem, rdV, q0, q1, q2, q3]) rfl ⟨rfl, ((((unhide HB0).setCell (Nat.le_refl _) _).setCell (Nat.le_refl _) _).setCell (Nat.le_refl _) _).setCell (Nat.le_refl _) _⟩
    · go_enter Tryz.func116, Tryz.ntmps116
      go_wp2_with fail
      refine (unhide HSP _ (hT.alloc _)).mono ?_
      rintro e w1 ⟨rfl, rfl⟩
      go_wp2_with fail
      refine (parse_big (s.extract 0 n) _ (hT.alloc _) (unhide HD) (unhide HNE) (unhide HS) (unhide HV)).mono ?_
      rintro e w1 ⟨x, tp, p, rfl, hb⟩
      have hb0 : Below w.heap.size w w1 := ((Below.refl _ _).alloc (Nat.le_refl _) _).trans (hb.mono (by simp))
      have q : w1.heap[w.heap.size]? = some (.cells #[.int .i64 0, .string ⟨#[]⟩, .int .i64 0, .int .i64 0] 82 (0, 0)) := by rw [hb.block _ (by simp)]; exact heap_alloc_new w _
      have q0 := CBox.cell (i := 0) (v := .int .i64 0) q rfl
      have q1 := CBox.cell (i := 1) (v := .string ⟨#[]⟩) q rfl
      have q2 := CBox.cell (i := 2) (v := .int .i64 0) q rfl
      have q3 := CBox.cell (i := 3) (v := .int .i64 0) q rfl
      have f0 := CBox.froz q 0
      have f1 := CBox.froz q 1
      have f2 := CBox.froz q 2
      have f3 := CBox.froz q 3
      have HB0 := hide hb0
      clear hb hb0 q
      go_wp2
      exact bodyPost_ret (v := rdV none) (by simp [results, Tryz.results116, go_sem, rdV, q0, q1, q2, q3]) rfl ⟨rfl, ((((unhide HB0).setCell (Nat.le_refl _) _).setCell (Nat.le_refl _) _).setCell (Nat.le_refl _) _).setCell (Nat.le_refl _) _⟩
  · rw [if_neg hv]
    have HV := hide hv
    have PO := fun W => parse_ok (s.extract 0 n) W (unhide HD) (unhide HNE) (unhide HS) hv
    generalize dvl 0 (s.extract 0 n).data.toList = V at PO ⊢
    have HPO := hide PO
    clear hv HV PO
    rcases unhide HZ with hz | ⟨hz, hn1⟩
    · go_enter Tryz.func116, Tryz.ntmps116
      go_wp2_with fail
      refine (unhide HSP _ (hT.alloc _)).mono ?_
      rintro e w1 ⟨rfl, rfl⟩
      go_wp2_with fail
      refine (unhide HPO _).mono ?_
      rintro e w1 ⟨rfl, hb⟩
      have hb0 : Below w.heap.size w w1 := ((Below.refl _ _).alloc (Nat.le_refl _) _).trans (hb.mono (by simp))
      have q : w1.heap[w.heap.size]? = some (.cells #[.int .i64 0, .string ⟨#[]⟩, .int .i64 0, .int .i64 0] 82 (0, 0)) := by rw [hb.block _ (by simp)]; exact heap_alloc_new w _
      have q0 := CBox.cell (i := 0) (v := .int .i64 0) q rfl
      have q1 := CBox.cell (i := 1) (v := .string ⟨#[]⟩) q rfl
      have q2 := CBox.cell (i := 2) (v := .int .i64 0) q rfl
      have q3 := CBox.cell (i := 3) (v := .int .i64 0) q rfl
      have f0 := CBox.froz q 0
      have f1 := CBox.froz q 1
      have f2 := CBox.froz q 2
      have f3 := CBox.froz q 3
      have HB0 := hide hb0
      clear hb hb0 q
      go_wp2
      exact bodyPost_ret (v := rdV (some (⟨2, txt [], (V : Int), 0⟩, n))) (by simp [results, Tryz.results116, go_sem, rdV, Tk.v, txt, q0, q1, q2, q3]) rfl ⟨rfl, ((((unhide HB0).setCell (Nat.le_refl _) _).setCell (Nat.le_refl _) _).setCell (Nat.le_refl _) _).setCell (Nat.le_refl _) _⟩
    · go_enter Tryz.func116, Tryz.ntmps116
      go_wp2_with fail
      refine (unhide HSP _ (hT.alloc _)).mono ?_
      rintro e w1 ⟨rfl, rfl⟩
      go_wp2_with fail
      refine (unhide HPO _).mono ?_
      rintro e w1 ⟨rfl, hb⟩
      have hb0 : Below w.heap.size w w1 := ((Below.refl _ _).alloc (Nat.le_refl _) _).trans (hb.mono (by simp))
      have q : w1.heap[w.heap.size]? = some (.cells #[.int .i64 0, .string ⟨#[]⟩, .int .i64 0, .int .i64 0] 82 (0, 0)) := by rw [hb.block _ (by simp)]; exact heap_alloc_new w _
      have q0 := CBox.cell (i := 0) (v := .int .i64 0) q rfl
      have q1 := CBox.cell (i := 1) (v := .string ⟨#[]⟩) q rfl
      have q2 := CBox.cell (i := 2) (v := .int .i64 0) q rfl
      have q3 := CBox.cell (i := 3) (v := .int .i64 0) q rfl
      have f0 := CBox.froz q 0
      have f1 := CBox.froz q 1
      have f2 := CBox.froz q 2
      have f3 := CBox.froz q 3
      have HB0 := hide hb0
      clear hb hb0 q
      go_wp2
      exact bodyPost_ret (v := rdV (some (⟨2, txt [], (V : Int), 0⟩, n))) (by simp [results, Tryz.results116, go_sem, rdV, Tk.v, txt, q0, q1, q2, q3]) rfl ⟨rfl, ((((unhide HB0).setCell (Nat.le_refl _) _).setCell (Nat.le_refl _) _).setCell (Nat.le_refl _) _).setCell (Nat.le_refl _) _⟩
end Go.Proofs.YtogklmljllocbabGreatDoor
