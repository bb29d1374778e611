/-
  Check: what an expression is, and whether it may be.
  fold: the stack from the back on (made by wip/mkfold.py).
  Write: an expression's text.
  Write itself.
  append to a row of the call's own, of cells that lie anywhere: what it gives, and where the new row lies. Of no program.
  Which stages an expression asks for, plainly; names in rows of the call's own.
  The reader: how it lies; the word at hand.
-/
import Derived.Test.YtjijhefmbmdbeaaGreatDoorD14
import Derived.Test.YtjijhefmbmdbeaaGreatDoorD13
import Derived.Test.YtjijhefmbmdbeaaGreatDoorD12
import Derived.Test.YtjijhefmbmdbeaaGreatDoorD05
import Derived.Laws.AppendOwnNone
import Derived.Test.YtjijhefmbmdbeaaGreatDoorD06
namespace Go.Proofs.YtjijhefmbmdbeaaGreatDoor
open Go.RowKit Go.Shelf

theorem Ex.dn_flat (t : Ex) : t.dn ≤ t.flat.length := by
  induction t with
  | lf p => simp [Ex.dn, Ex.flat]
  | un p a ih => simp only [Ex.dn, Ex.flat, List.length_cons]; omega
  | bi p a b iha ihb => simp only [Ex.dn, Ex.flat, List.length_cons, List.length_append]; omega
theorem Ex.sh_ok (t : Ex) (h : t.flat.length ≤ 200) : (t.val shp).ok := by
  have h1 := t.kd_range
  have h2 := t.dp_pos
  have h3 := t.dp_dn
  have h4 := t.dn_flat
  exact ⟨h1, by show 0 ≤ t.dp; omega, by show t.dp ≤ _; omega⟩
theorem shapeOf_each {xs : List Pt} (hl : xs.length ≤ 200) {w : World} (hT : TbE w) (hfit : ∀ p ∈ xs, p.fit) (p : Pt) (ts : List Ex) (W : World) (hp : p ∈ xs) (_ : ∀ t ∈ ts, t.wf ∧ ∀ q ∈ t.flat, q ∈ xs) (hn : (ts.flatMap Ex.flat).length + 1 ≤ xs.length) (hs : ts.length = sds p.kd) (hb : Below w.heap.size w W) :
    Calls Tryz.prog 108 #[p.v, .agg (rowC p.kd), .agg (sdCS (ts.map (Ex.val shp)))] W fun e w' => e = .returned (.agg (shE (shp p (ts.map (Ex.val shp)))).toArray) ∧ Below W.heap.size W w' := by
  have hW := hT.below hb hT.low
  have z : Sh.ok ⟨0, 0⟩ := ⟨⟨by decide, by decide⟩, by decide, by decide⟩
  have h2 := sds_le p.kd
  match ts, hs with
  | [], hs =>
    have := shapeOf_any p ⟨0, 0⟩ ⟨0, 0⟩ W hW (hfit p hp) z z (fun _ => rfl)
    rw [← hs] at this
    exact this
  | [a], hs =>
    have := shapeOf_any p (a.val shp) ⟨0, 0⟩ W hW (hfit p hp) (a.sh_ok (by simp at hn; omega)) z (fun _ => rfl)
    rw [← hs] at this
    exact this
  | [a, b], hs =>
    have := shapeOf_any p (a.val shp) (b.val shp) W hW (hfit p hp) (a.sh_ok (by simp at hn; omega)) (b.sh_ok (by simp at hn; omega)) (fun e => by rw [e] at hs; simp at hs)
    rw [← hs] at this
    exact this
  | a :: b :: c :: r, hs => simp at hs; omega
theorem fold_shapes (ad : Option Addr) (cap : Nat) (xs : List Pt) (hsz : xs.length ≤ 200) (w : World) (hc : PtsAt w ad xs) (hT : TbE w) (hfit : ∀ p ∈ xs, p.fit) :
    Calls Tryz.prog 107 #[.slice ad xs.length cap, .func (.func 108) #[] #[]] w fun e w' => e = .returned (foRS (fdX shp xs)) ∧ Below w.heap.size w w' :=
  callsIn_wide.1 (foldS_in 108 ad cap xs hsz w (PtsLow.of hc) (enters_of Tryz.func108 (by kernel_rfl) rfl) (shapeOf_each hsz hT hfit))
theorem fdX_range {xs : List Pt} {s : Sh} (h : fdX shp xs = some s) : (0 ≤ s.kd ∧ s.kd ≤ 3) := by
  obtain ⟨t, _, _, rfl⟩ := fdX_some h
  exact t.kd_range
set_option maxRecDepth 100000 in
set_option maxHeartbeats 1000000 in
theorem check_any (ad : Option Addr) (cap : Nat) (xs : List Pt) (w : World) (hc : PtsAt w ad xs) (hT : TbE w) (hfit : ∀ p ∈ xs, p.fit) :
    Calls Tryz.prog 80 #[.slice ad xs.length cap] w fun e w' => e = .returned (.tuple #[.int .i64 (ckK xs), .int .i64 (if ckK xs = 0 then 110 else 0)]) ∧ Below w.heap.size w w' := by
  by_cases hl : 200 < xs.length
  · have hk : ckK xs = 0 := by unfold ckK; rw [if_pos hl]
    rw [hk, if_pos rfl]
    have h1 : ((200 : Int) < (xs.length : Int)) = True := by simp; omega
    clear hc hT hfit hk hl
    go_enter Tryz.func80, Tryz.ntmps80
    go_wp2
    exact bodyPost_ret (results_tmp2 rfl _ _ _) rfl ⟨rfl, Below.refl _ _⟩
  · have h1 : ((200 : Int) < (xs.length : Int)) = False := by simp; omega
    have F1 := hide (fold_shapes ad cap xs (by omega) w hc hT hfit)
    have hk : ckK xs = match fdX shp xs with | some s => if s.dp > 32 then 0 else s.kd | none => 0 := by unfold ckK; rw [if_neg hl]; rfl
    have hr := fun s => fdX_range (xs := xs) (s := s)
    rw [hk]
    clear hc hT hfit hk
    generalize fdX shp xs = r at *
    have HR := hide hr
    clear hr hl
    go_enter Tryz.func80, Tryz.ntmps80
    go_wp2_with fail
    refine (unhide F1).mono ?_
    rintro e w1 ⟨rfl, hb⟩
    cases r with
    | none =>
      clear F1 HR
      unfold foRS
      dsimp only
      go_wp2
      exact bodyPost_ret (results_tmp2 rfl _ _ _) rfl ⟨rfl, hb.alloc hb.size _⟩
    | some s =>
      obtain ⟨k1, k2⟩ := unhide HR s rfl
      obtain ⟨kd, dp⟩ := s
      dsimp only at k1 k2
      unfold foRS shE
      dsimp only
      by_cases h0 : kd = 0
      · subst h0
        clear F1 HR
        go_wp2
        exact bodyPost_ret (results_tmp2 rfl _ _ _) rfl ⟨rfl, hb.alloc hb.size _⟩
      · by_cases hd : dp > 32
        · have hd2 : ((32 : Int) < dp) = True := by simp; omega
          clear F1 HR
          go_wp2
          exact bodyPost_ret (results_tmp2 rfl _ _ _) rfl ⟨by first | rfl | (dsimp only; rw [if_pos hd, if_pos rfl]; rfl) | (simp [hd]), hb.alloc hb.size _⟩
        · have hd2 : ((32 : Int) < dp) = False := by simp; omega
          clear F1 HR
          go_wp2
          exact bodyPost_ret (results_tmp2 rfl _ _ _) rfl ⟨by first | rfl | (dsimp only; rw [if_neg hd, if_neg h0]; rfl) | (simp [hd, h0]), hb.alloc hb.size _⟩
end Go.Proofs.YtjijhefmbmdbeaaGreatDoor
namespace Go.Proofs.YtjijhefmbmdbeaaGreatDoor
open Go.RowKit Go.Shelf
attribute [local go_sem] Oper.semAt_some

def wrE (a : List UInt8 × Bool) : List Value := [.string (txt a.1), .bool a.2]
/-- What lies there between two rounds. -/
structure FIW (fv : Value) (ad : Option Addr) (cap0 : Nat) (w : World) (g7 g8 : Nat) (xs : List Pt) (pre : List (Fin xs.length)) (W : World) : Prop where
  be : CBox w.heap.size #[fv] 151 W
  b1 : CBox (w.heap.size + 1) #[.string { data := #[] }, .bool false] 148 W
  b2 : CBox (w.heap.size + 1 + 1) #[.bool false] 4 W
  b3 : CBox (w.heap.size + 1 + 1 + 1) #[.string { data := #[] }, .bool false] 148 W
  bo : CBox g7 opsV 168 W
  row : ∃ (l : List (List UInt8 × Bool)) (g cap : Nat), stk wrv ((pre.map fun i => xs[i]).reverse) = some l ∧ CBox g8 #[.slice (some ⟨g, 0, none⟩) l.length cap] 178 W ∧ W.ownsRow (w.heap.size + 4) 148 2 (.slice (some ⟨g, 0, none⟩) l.length cap) l.length (l.reverse.flatMap wrE)
  bel : Below w.heap.size w W
  bs : CBox (g7 + 1 + 1 + 1) #[.slice ad xs.length cap0] 52 W
  sz : g7 + 4 ≤ W.heap.size
theorem FIW.own {fv : Value} {ad : Option Addr} {cap0 : Nat} {w : World} {g7 g8 B : Nat} {xs : List Pt} (hB : w.heap.size ≤ B) : OwnFrom B (FIW fv ad cap0 w g7 g8 xs) := fun pre W W' row h hg hr => by
  have hr2 := fun r e => (hr r e).2
  obtain ⟨l, g, cap, h1, h2, h3⟩ := h.row
  exact ⟨cbox_own h.be hg hr2, cbox_own h.b1 hg hr2, cbox_own h.b2 hg hr2, cbox_own h.b3 hg hr2, cbox_own h.bo hg hr2, ⟨l, g, cap, h1, cbox_own h2 hg hr2, row_own h3 hg hr2⟩, ownFrom_below (β := Unit) (Nat.le_refl _) hB () W W' row h.bel hg hr, cbox_own h.bs hg hr2, Nat.le_trans h.sz hg.size⟩
/-- What lies there when a round found too few. -/
structure FXW (w : World) (xs : List Pt) (pre : List (Fin xs.length)) (W : World) : Prop where
  no : stk wrv ((pre.map fun i => xs[i]).reverse) = none
  b1 : CBox (w.heap.size + 1) #[.string { data := #[] }, .bool false] 148 W
  b2 : CBox (w.heap.size + 1 + 1) #[.bool false] 4 W
  bel : Below w.heap.size w W
theorem FXW.own {w : World} {B : Nat} {xs : List Pt} (hB : w.heap.size ≤ B) (c : Code) : OwnFrom B (fun pre W => c = .ret ∧ FXW w xs pre W) := fun pre W W' row h hg hr => by
  have hr2 := fun r e => (hr r e).2
  exact ⟨h.1, h.2.no, cbox_own h.2.b1 hg hr2, cbox_own h.2.b2 hg hr2, ownFrom_below (β := Unit) (Nat.le_refl _) hB () W W' row h.2.bel hg hr⟩
/-- What lies there ahead of the loop over the sides. -/
structure FLW (fv : Value) (w W Wl : World) (g7 g8 g L cp Bx gop : Nat) (p : Pt) (row : Array Value) (lst : List (List UInt8 × Bool)) : Prop where
  kp : Kp [] W Wl
  b8 : CBox g8 #[.slice (some ⟨g, 0, none⟩) L cp] 178 Wl
  bsd : CBox (gop + 1) #[.string { data := #[] }, .bool false, .string { data := #[] }, .bool false] 179 Wl
  bop : CBox gop row 166 Wl
  bx : CBox Bx #[.int .i64 p.kd, .int .i64 p.n, .string p.s, .string p.st, .int .i64 p.fl] 86 Wl
  be : CBox w.heap.size #[fv] 151 Wl
  row : Wl.ownsRow (w.heap.size + 4) 148 2 (.slice (some ⟨g, 0, none⟩) L cp) L (lst.reverse.flatMap wrE)
  le : W.heap.size ≤ gop
  g78 : g7 + 1 + 1 = g8
  gl : g < W.heap.size
  n1 : g ≠ g8
  n2 : Bx ≠ g8
  n3 : Bx < W.heap.size
  n4 : g8 < W.heap.size
  n5 : w.heap.size + 4 ≤ g7
  n6 : g ≠ Bx
  n7 : w.heap.size + 4 ≤ g
end Go.Proofs.YtjijhefmbmdbeaaGreatDoor
namespace Go.Proofs.YtjijhefmbmdbeaaGreatDoor
open Go.RowKit Go.Shelf

end Go.Proofs.YtjijhefmbmdbeaaGreatDoor
namespace Go.Proofs.YtjijhefmbmdbeaaGreatDoor
open Go.RowKit Go.Shelf

theorem ckK_leaves {x : List Pt} (h : ckK x ≠ 0) : ∃ t : Ex, t.wf ∧ t.fine ∧ x = t.flat ∧ t.dn ≤ 32 ∧ x.length ≤ 200 ∧ t.kd = ckK x := by
  obtain ⟨t, h1, h2, h3, h4, h5⟩ := ckK_some h
  refine ⟨t, h1, t.fine_of h1 (by rw [h3]; exact h), h2, ?_, h5, h3⟩
  have := t.dp_dn
  omega
end Go.Proofs.YtjijhefmbmdbeaaGreatDoor
namespace Go.Proofs.YtjijhefmbmdbeaaGreatDoor
open Go.RowKit

/-- append, by its run. -/
theorem wpList_app_run {P : Program} {ops : Array Oper} {rest : List Oper} {o : Oper} {a : Act} {w w' : World} {Q : Exit → Act → World → Prop} {v u1 u2 : Value} (hgd : o.guard = none) (s x : Operand) (t : TypeId)
    (ho : o.op = .call { callee := .builtin .append, args := #[s, x], argTypes := #[t, t] }) (hs : a.eval s = u1) (hx : a.eval x = u2) (hr : (Builtin.append_ #[t, t] o.type #[u1, u2]).run P w = .ok v w')
    (h : wpList P ops Q rest (a.put o.dst v) w') : wpList P ops Q (o :: rest) a w :=
  wpList_plain hgd fun _ hK => by
    unfold Oper.wp
    simp [execOp, ho, resolve, invoke, builtin, hs, hx, hr, Result.andThen]
    exact hK _ _ h
end Go.Proofs.YtjijhefmbmdbeaaGreatDoor
namespace Go.Proofs.YtjijhefmbmdbeaaGreatDoor
open Go.RowKit Go.Shelf

def stgA (out : List ByteArray) (p : Pt) : List ByteArray := if emptyB p.st || hasN out p.st then out else out ++ [p.st]
/-- The stages that are asked for, each once, in their order. -/
def stgL (x : List Pt) : List ByteArray := x.foldl stgA []
theorem stgL_take (x : List Pt) (k : Nat) (h : k < x.length) : stgL (x.take (k + 1)) = stgA (stgL (x.take k)) x[k] := by
  unfold stgL
  rw [List.take_succ_eq_append_getElem h, List.foldl_append]
  rfl
theorem stgA_len (out : List ByteArray) (p : Pt) : (stgA out p).length ≤ out.length + 1 := by
  unfold stgA
  split
  · omega
  · simp
theorem foldl_stg_len (x : List Pt) : ∀ out : List ByteArray, (x.foldl stgA out).length ≤ out.length + x.length := by
  induction x with
  | nil => intro out; simp
  | cons p r ih =>
    intro out
    have h1 := ih (stgA out p)
    have h2 := stgA_len out p
    rw [List.foldl_cons, List.length_cons]
    omega
theorem stgL_len (x : List Pt) : (stgL x).length ≤ x.length := by
  have := foldl_stg_len x []
  simpa [stgL] using this
theorem Ex.fine_st (t : Ex) (h : t.fine) : ∀ q ∈ t.flat, emptyB q.st = true ∨ isSg q.st = true := by
  induction t with
  | lf p =>
    intro q hq
    simp only [Ex.flat, List.mem_singleton] at hq
    subst hq
    rcases lfK_ne h with ⟨_, _, e⟩ | ⟨_, _, e⟩ | ⟨_, _, _, e, _⟩
    · rw [e]; exact Or.inl rfl
    · rw [e]; exact Or.inl rfl
    · rcases e with e | e
      · rw [e]; exact Or.inl rfl
      · exact Or.inr e
  | un p a ih =>
    intro q hq
    simp only [Ex.flat, List.mem_cons] at hq
    rcases hq with rfl | hq
    · rw [h.2.1]; exact Or.inl rfl
    · exact ih h.2.2 q hq
  | bi p a b iha ihb =>
    intro q hq
    simp only [Ex.flat, List.mem_cons, List.mem_append] at hq
    rcases hq with rfl | hq | hq
    · rw [h.2.2.1]; exact Or.inl rfl
    · exact iha h.2.2.2.1 q hq
    · exact ihb h.2.2.2.2 q hq
theorem isSg_size {s : ByteArray} (h : isSg s = true) : 0 < s.size ∧ s.size ≤ 32 := by
  unfold isSg at h
  simp only [Bool.and_eq_true, decide_eq_true_eq] at h
  exact ⟨h.1.1.1.1, h.1.1.1.2⟩
theorem ck_st {x : List Pt} (h : ckK x ≠ 0) : ∀ q ∈ x, (emptyB q.st = true ∨ isSg q.st = true) ∧ q.st.size ≤ 32 := by
  obtain ⟨t, _, h2, h3, _⟩ := ckK_leaves h
  intro q hq
  rw [h3] at hq
  have := t.fine_st h2 q hq
  refine ⟨this, ?_⟩
  rcases this with e | e
  · unfold emptyB at e; have : q.st.size = 0 := by simpa using e
    omega
  · exact (isSg_size e).2
/-- What Stages tells. -/
def stgS (x : List Pt) : List ByteArray := if ckK x = 0 then [] else stgL x
theorem stgS_len (x : List Pt) : (stgS x).length ≤ 200 := by
  unfold stgS
  split
  · simp
  · rename_i h
    obtain ⟨_, _, _, _, _, h5, _⟩ := ckK_leaves h
    have := stgL_len x
    omega
/-! Names in a row of the call's own. -/
def nmC (l : List ByteArray) : List Value := l.map Value.string
def OwnsW (B : Nat) (w : World) (v : Value) (l : List ByteArray) : Prop := w.ownsRow B 9 1 v l.length (nmC l)
theorem info_str : (Tryz.prog.info? 9).map (fun i => (i.zero, i.size, i.bytes)) = some (some (.string ⟨#[]⟩), 1, 16) := by kernel_rfl
theorem OwnsW.nil (B : Nat) (w : World) : OwnsW B w (.slice none 0 0) [] := World.ownsRow_nil _ _ _ _
theorem OwnsW.kp {B : Nat} {w w' : World} {v : Value} {l : List ByteArray} (h : OwnsW B w v l) (hk : Kp [] w w') : OwnsW B w' v l := row_kp h hk (by simp)
theorem OwnsW.at {B : Nat} {w : World} {v : Value} {l : List ByteArray} (h : OwnsW B w v l) : ∃ ad cp, v = .slice ad l.length cp ∧ NmsAt w ad l ∧ l.length ≤ cp := by
  obtain ⟨_, ⟨rfl, h0⟩ | ⟨g, cp, cur, rfl, _, _, hcap, _⟩⟩ := id h
  · refine ⟨none, 0, by rw [h0], fun hne => ?_, by omega⟩
    exact absurd (List.eq_nil_of_length_eq_zero h0) hne
  · have hl := World.ownsRow.lt h g rfl
    refine ⟨_, _, rfl, fun _ => ⟨g, 0, rfl, hl.2, fun i hi => ?_⟩, hcap⟩
    rw [Nat.zero_add, World.ownsRow.cellAt h i (by omega)]
    unfold nmC
    rw [List.getElem?_map, List.getElem?_eq_getElem hi]
    rfl
/-- append of one name. -/
theorem OwnsW.app {B : Nat} {w : World} {v : Value} {l : List ByteArray} (ho : OwnsW B w v l) (hB : B ≤ w.heap.size) (s : ByteArray) {g c : Nat} (hc : w.cell? ⟨g, 0, none⟩ = some (.string s)) (hl : l.length + 1 ≤ 1000000) (ty : TypeId) :
    ∃ g' cap w', (Builtin.append_ #[68, 68] ty #[v, .slice (some ⟨g, 0, none⟩) 1 c]).run Tryz.prog w = .ok (.slice (some ⟨g', 0, none⟩) (l.length + 1) cap) w' ∧ OwnsW B w' (.slice (some ⟨g', 0, none⟩) (l.length + 1) cap) (l ++ [s]) ∧ Below B w w' ∧ w.grownBy w' v.ownBlock := by
  obtain ⟨i0, hi, hz0, hz1, hz2⟩ := info_parts info_str
  obtain ⟨g', cap, w', hrun, r1, r2, _⟩ := run_append_lies (P := Tryz.prog) (w := w) 68 ty B 9 i0 (.string ⟨#[]⟩) 1 16 Tryz.underlying68 hi hz0 hz1 hz2 rfl (by decide) v l.length (nmC l) ho ⟨g, 0, none⟩ 1 c [.string s] rfl (fun j u hj => by
    match j, hj with
    | 0, hj => simp at hj; subst hj; exact hc) (by intro u hu; simp at hu; subst hu; rfl) (by omega) (by unfold maxLen; omega) (by omega) hB _ rfl
  refine ⟨g', cap, w', hrun, ?_, (Kp.of r2).below hB (fun k hk => ?_), r2⟩
  · unfold OwnsW nmC
    rw [List.length_append, List.map_append]
    exact r1
  · have : v.ownBlock = some k := by simpa using hk
    exact (World.ownsRow.lt ho k this).1
end Go.Proofs.YtjijhefmbmdbeaaGreatDoor
namespace Go.Proofs.YtjijhefmbmdbeaaGreatDoor
open Go.RowKit Go.Shelf

attribute [local irreducible] opsV
/-- The reader's cells. -/
def rdC (lv tk : Value) (k d : Nat) (pv : Value) : Array Value := #[lv] ++ opsV ++ #[tk, .int .i64 (k : Int), .int .i64 (d : Int), pv]
theorem rdC_hi (lv tk : Value) (k d : Nat) (pv : Value) (j : Nat) : (rdC lv tk k d pv)[71 + j]? = (#[tk, .int .i64 (k : Int), .int .i64 (d : Int), pv] : Array Value)[j]? := by
  unfold rdC
  rw [Array.getElem?_append_right (by rw [Array.size_append, opsV_size]; simp), Array.size_append, opsV_size]
  congr 1
  simp
theorem rdC_0 (lv tk : Value) (k d : Nat) (pv : Value) : (rdC lv tk k d pv)[0]? = some lv := by
  unfold rdC
  rw [Array.getElem?_append_left (by rw [Array.size_append, opsV_size]; simp), Array.getElem?_append_left (by simp)]
  rfl
theorem rdC_op (lv tk : Value) (k d : Nat) (pv : Value) (j : Nat) (h : j < 70) : (rdC lv tk k d pv)[1 + j]? = opsV[j]? := by
  unfold rdC
  rw [Array.getElem?_append_left (by rw [Array.size_append, opsV_size]; simp; omega), Array.getElem?_append_right (by simp)]
  congr 1
  simp
theorem rdC_71 (lv tk : Value) (k d : Nat) (pv : Value) : (rdC lv tk k d pv)[71]? = some tk := rdC_hi lv tk k d pv 0
theorem rdC_72 (lv tk : Value) (k d : Nat) (pv : Value) : (rdC lv tk k d pv)[72]? = some (.int .i64 (k : Int)) := rdC_hi lv tk k d pv 1
theorem rdC_73 (lv tk : Value) (k d : Nat) (pv : Value) : (rdC lv tk k d pv)[73]? = some (.int .i64 (d : Int)) := rdC_hi lv tk k d pv 2
theorem rdC_74 (lv tk : Value) (k d : Nat) (pv : Value) : (rdC lv tk k d pv)[74]? = some pv := rdC_hi lv tk k d pv 3
theorem opsV_len : opsV.toList.length = 70 := by rw [Array.length_toList]; exact opsV_size
theorem rdC_set (lv tk : Value) (k d : Nat) (pv v : Value) (j : Nat) : (rdC lv tk k d pv).setIfInBounds (71 + j) v = #[lv] ++ opsV ++ (#[tk, .int .i64 (k : Int), .int .i64 (d : Int), pv] : Array Value).setIfInBounds j v := by
  apply Array.ext'
  unfold rdC
  rw [Array.toList_setIfInBounds, Array.toList_append, Array.toList_append, Array.toList_append, Array.toList_append, Array.toList_setIfInBounds, List.set_append_right _ _ (by rw [List.length_append, opsV_len]; simp), List.length_append, opsV_len]
  congr 2
  simp
theorem rdC_k (lv tk : Value) (k k' d : Nat) (pv : Value) : (rdC lv tk k d pv).setIfInBounds 72 (.int .i64 (k' : Int)) = rdC lv tk k' d pv := rdC_set lv tk k d pv _ 1
theorem rdC_d (lv tk : Value) (k d d' : Nat) (pv : Value) : (rdC lv tk k d pv).setIfInBounds 73 (.int .i64 (d' : Int)) = rdC lv tk k d' pv := rdC_set lv tk k d pv _ 2
theorem rdC_p (lv tk : Value) (k d : Nat) (pv pv' : Value) : (rdC lv tk k d pv).setIfInBounds 74 pv' = rdC lv tk k d pv' := rdC_set lv tk k d pv _ 3
/-- The tokens lie below that block. -/
def TksLow (B : Nat) (W : World) (tk : Value) (l : List Tk) : Prop := ∃ b off cap, tk = .slice (some ⟨b, off, none⟩) l.length cap ∧ b < B ∧ ∀ i (h : i < l.length), W.cell? ⟨b, off + i * 4, none⟩ = some (.int .i64 l[i].kd) ∧ W.cell? ⟨b, off + i * 4 + 1, none⟩ = some (.string l[i].s) ∧ W.cell? ⟨b, off + i * 4 + 2, none⟩ = some (.int .i64 l[i].n) ∧ W.cell? ⟨b, off + i * 4 + 3, none⟩ = some (.int .i64 l[i].pl)
theorem TksLow.below {B : Nat} {W W' : World} {tk : Value} {l : List Tk} (h : TksLow B W tk l) (hb : Below B W W') : TksLow B W' tk l := by
  obtain ⟨b, off, cap, e, hlt, hc⟩ := h
  refine ⟨b, off, cap, e, hlt, fun i hi => ?_⟩
  obtain ⟨c0, c1, c2, c3⟩ := hc i hi
  exact ⟨(hb.cell (p := ⟨b, _, none⟩) hlt).trans c0, (hb.cell (p := ⟨b, _, none⟩) hlt).trans c1, (hb.cell (p := ⟨b, _, none⟩) hlt).trans c2, (hb.cell (p := ⟨b, _, none⟩) hlt).trans c3⟩
/-- Which function reads a level. -/
def lvF (n : Nat) : Nat := if n = 2 then 176 else if n = 3 then 177 else if n = 6 then 178 else 175
/-- A level's operations lie there. -/
def OpsLow (B : Nat) (W : World) (ov : Value) (os : List Int) : Prop := (os = [] ∧ ov = .slice none 0 0) ∨ ∃ b, ov = .slice (some ⟨b, 0, none⟩) os.length os.length ∧ b < B ∧ ∀ i (h : i < os.length), W.cell? ⟨b, i, none⟩ = some (.int .i64 os[i])
theorem OpsLow.below {B : Nat} {W W' : World} {ov : Value} {os : List Int} (h : OpsLow B W ov os) (hb : Below B W W') : OpsLow B W' ov os := by
  rcases h with h | ⟨b, e, hlt, hc⟩
  · exact Or.inl h
  · exact Or.inr ⟨b, e, hlt, fun i hi => (hb.cell (p := ⟨b, _, none⟩) hlt).trans (hc i hi)⟩
def LvsLow (B : Nat) (W : World) (lv : Value) : Prop := ∃ b, lv = .slice (some ⟨b, 0, none⟩) 7 7 ∧ b < B ∧ ∀ n, n < 7 → W.cell? ⟨b, n * 2, none⟩ = some (.func (.func (lvF n)) #[] #[]) ∧ ∃ ov, W.cell? ⟨b, n * 2 + 1, none⟩ = some ov ∧ OpsLow B W ov (lvO n)
theorem LvsLow.below {B : Nat} {W W' : World} {lv : Value} (h : LvsLow B W lv) (hb : Below B W W') : LvsLow B W' lv := by
  obtain ⟨b, e, hlt, hc⟩ := h
  refine ⟨b, e, hlt, fun n hn => ?_⟩
  obtain ⟨c0, ov, c1, c2⟩ := hc n hn
  exact ⟨(hb.cell (p := ⟨b, _, none⟩) hlt).trans c0, ov, (hb.cell (p := ⟨b, _, none⟩) hlt).trans c1, c2.below hb⟩
/-- What lies below the reader. -/
structure Env (gr : Nat) (lv tk : Value) (l : List Tk) (W : World) : Prop where
  tks : TksLow gr W tk l
  lvs : LvsLow gr W lv
  tab : TbE W
  low : 9 ≤ gr
  len : l.length ≤ 100000
  ok : ∀ t ∈ l, t.s.size ≤ 140737488351232
theorem Env.below {gr : Nat} {lv tk : Value} {l : List Tk} {W W' : World} (h : Env gr lv tk l W) (hb : Below gr W W') : Env gr lv tk l W' := ⟨h.tks.below hb, h.lvs.below hb, h.tab.below hb h.low, h.low, h.len, h.ok⟩
def ptE (p : Pt) : List Value := [.int .i64 p.kd, .int .i64 p.n, .string p.s, .string p.st, .int .i64 p.fl]
theorem ptE_len (p : Pt) : (ptE p).length = 5 := rfl
/-- The reader lies there: it stands at a token, so many deep, and has read these parts. -/
structure Rd (gr : Nat) (lv tk : Value) (l : List Tk) (k d : Nat) (ps : List Pt) (W : World) : Prop where
  env : Env gr lv tk l W
  box : ∃ pv, CBox gr (rdC lv tk k d pv) 204 W ∧ W.ownsRow (gr + 1) 86 5 pv ps.length (ps.flatMap ptE)
theorem Rd.below {gr : Nat} {lv tk : Value} {l : List Tk} {k d : Nat} {ps : List Pt} {W W' : World} (h : Rd gr lv tk l k d ps W) (hb : Below W.heap.size W W') : Rd gr lv tk l k d ps W' := by
  obtain ⟨pv, h1, h2⟩ := h.box
  have hlt := (Array.getElem?_eq_some_iff.1 h1).1
  have hk := Kp.ofBelow hb
  exact ⟨h.env.below (hb.mono (by omega)), pv, h1.kp hk (by simp), row_kp h2 hk (by simp)⟩
def wdS (t : Tk) : ByteArray := if t.kd = 1 ∨ t.kd = 4 then t.s else ⟨#[]⟩
theorem wdS_list (t : Tk) : (wdS t).data.toList = wdT t := by unfold wdS wdT; split <;> rfl
theorem drop_at {l : List Tk} {k : Nat} {t : Tk} {r : List Tk} (h : l.drop k = t :: r) : ∃ hk : k < l.length, l[k] = t ∧ l.drop (k + 1) = r := by
  have hk : k < l.length := by
    rcases Nat.lt_or_ge k l.length with h1 | h1
    · exact h1
    · rw [List.drop_eq_nil_of_le h1] at h; cases h
  rw [List.drop_eq_getElem_cons hk] at h
  cases h
  exact ⟨hk, rfl, rfl⟩
set_option maxHeartbeats 2000000 in
set_option maxRecDepth 100000 in
theorem word_any {gr : Nat} {lv tk : Value} {l : List Tk} {k d : Nat} {ps : List Pt} {W : World} (h : Rd gr lv tk l k d ps W) {t : Tk} {r : List Tk} (ht : l.drop k = t :: r) :
    Calls Tryz.prog 199 #[.pointer (some ⟨gr, 0, none⟩)] W fun e w' => e = .returned (.string (wdS t)) ∧ Below W.heap.size W w' := by
  obtain ⟨hk, ha, _⟩ := drop_at ht
  obtain ⟨pv, hb, _⟩ := h.box
  obtain ⟨b, off, cap, htk, hlt, hc⟩ := h.env.tks
  obtain ⟨c0, c1, c2, c3⟩ := hc k hk
  rw [ha] at c0 c1 c2 c3
  have hlen := h.env.len
  have hgl := (Array.getElem?_eq_some_iff.1 hb).1
  have e1 := hb.cell (rdC_71 lv tk k d pv)
  have e2 := hb.cell (rdC_72 lv tk k d pv)
  rw [htk] at e1
  clear h hb hc ha htk ht
  have al : ∀ {q : Addr} {v : Value}, W.cell? q = some v → q.block < W.heap.size → (W.alloc (.cells #[.int .i64 0, .string { data := #[] }, .int .i64 0, .int .i64 0] 74)).cell? q = some v := fun h _ => (Kp.alloc W _).cell h (by simp)
  have d0 := al c0 (by show b < _; omega)
  have d1 := al c1 (by show b < _; omega)
  have d2 := al c2 (by show b < _; omega)
  have d3 := al c3 (by show b < _; omega)
  have g1 := al e1 hgl
  have g2 := al e2 hgl
  clear al
  unfold wdS
  obtain ⟨kd, s, n, pl⟩ := t
  dsimp only at *
  go_enter Tryz.func199, Tryz.ntmps199
  go_wp2
  go_region
  clear c0 c1 c2 c3 d0 d1 d2 d3 e1 e2 g1 g2
  have hb : ∀ o, Below W.heap.size W (W.alloc o).drew := fun o => ((Below.refl _ _).alloc (Nat.le_refl _) _).trans ⟨rfl, rfl, rfl, Nat.le_refl _, fun _ _ => rfl⟩
  by_cases h1 : kd = 1
  · subst h1
    go_wp2
    exact bodyPost_ret (results_tmp rfl _ _ _) rfl ⟨rfl, hb _⟩
  · by_cases h4 : kd = 4
    · subst h4
      go_wp2
      exact bodyPost_ret (results_tmp rfl _ _ _) rfl ⟨rfl, hb _⟩
    · have g1 : (kd == 1) = false := beq_eq_false_iff_ne.2 h1
      have g4 : (kd == 4) = false := beq_eq_false_iff_ne.2 h4
      go_wp2
      exact bodyPost_ret (results_tmp rfl _ _ _) rfl ⟨by first | rfl | (rw [if_neg (by omega)]; rfl), hb _⟩
/-- One token on. -/
theorem Rd.next {gr : Nat} {lv tk : Value} {l : List Tk} {k d : Nat} {ps : List Pt} {W : World} (h : Rd gr lv tk l k d ps W) : Rd gr lv tk l (k + 1) d ps (W.setCell ⟨gr, 72, none⟩ (.int .i64 ((k : Int) + 1))) := by
  obtain ⟨pv, h1, h2⟩ := h.box
  have hlt := (Array.getElem?_eq_some_iff.1 h1).1
  have e : ((k : Int) + 1) = ((k + 1 : Nat) : Int) := by omega
  rw [e]
  have c := h1.set 72 (.int .i64 ((k + 1 : Nat) : Int))
  rw [rdC_k] at c
  exact ⟨h.env.below ((Kp.set W gr 72 _).below (by omega) (by simp)), pv, c, row_kp h2 (Kp.set _ _ _ _) (fun g hg => by have := (h2.lt g hg).1; simp; omega)⟩
theorem Rd.cells {gr : Nat} {lv tk : Value} {l : List Tk} {k d : Nat} {ps : List Pt} {W : World} (h : Rd gr lv tk l k d ps W) : W.cell? ⟨gr, 72, none⟩ = some (.int .i64 (k : Int)) ∧ W.cell? ⟨gr, 73, none⟩ = some (.int .i64 (d : Int)) ∧ (∀ i, W.frozen? ⟨gr, i, none⟩ = false) ∧ gr < W.heap.size := by
  obtain ⟨pv, h1, h2⟩ := h.box
  exact ⟨h1.cell (rdC_72 lv tk k d pv), h1.cell (rdC_73 lv tk k d pv), h1.froz, (Array.getElem?_eq_some_iff.1 h1).1⟩
set_option maxHeartbeats 2000000 in
set_option maxRecDepth 100000 in
theorem skip_any {gr : Nat} {lv tk : Value} {l : List Tk} {k d : Nat} {ps : List Pt} {W : World} (h : Rd gr lv tk l k d ps W) {t : Tk} {r : List Tk} (ht : l.drop k = t :: r) (sg : ByteArray) :
    Calls Tryz.prog 192 #[.pointer (some ⟨gr, 0, none⟩), .string sg] W fun e w' => e = .returned (.bool (decide (wdT t = sg.data.toList))) ∧ Rd gr lv tk l (if wdT t = sg.data.toList then k + 1 else k) d ps w' ∧ Below gr W w' := by
  have WD := hide (word_any h ht)
  have hk : k ≤ 100000 := by obtain ⟨hk, _⟩ := drop_at ht; have := h.env.len; omega
  have HR := hide h
  rw [← wdS_list]
  clear h ht
  generalize wdS t = S at *
  by_cases he : S.data.toList = sg.data.toList
  · have heq : (S.toList == sg.toList) = true := by rw [toList_data, toList_data, he]; exact beq_self_eq_true _
    rw [if_pos he, decide_eq_true he]
    clear he
    go_enter Tryz.func192, Tryz.ntmps192
    go_wp2_with fail
    refine (unhide WD).mono ?_
    rintro e w1 ⟨rfl, hb⟩
    have HR1 := hide ((unhide HR).below hb)
    obtain ⟨c72, _, f72, _⟩ := (unhide HR1).cells
    have HB := hide (hb.mono (show gr ≤ W.heap.size by have := (unhide HR).cells; omega))
    clear hb HR WD
    go_wp2
    refine bodyPost_ret (results_tmp rfl _ _ _) rfl ⟨rfl, (unhide HR1).next, (unhide HB).setCell (p := ⟨gr, 72, none⟩) (Nat.le_refl _) _⟩
  · have heq : (S.toList == sg.toList) = false := by rw [toList_data, toList_data]; exact beq_eq_false_iff_ne.2 he
    rw [if_neg he, decide_eq_false he]
    clear he
    go_enter Tryz.func192, Tryz.ntmps192
    go_wp2_with fail
    refine (unhide WD).mono ?_
    rintro e w1 ⟨rfl, hb⟩
    have HR1 := hide ((unhide HR).below hb)
    have HB := hide (hb.mono (show gr ≤ W.heap.size by have := (unhide HR).cells; omega))
    clear hb HR WD
    go_wp2
    exact bodyPost_ret (results_tmp rfl _ _ _) rfl ⟨rfl, unhide HR1, unhide HB⟩
end Go.Proofs.YtjijhefmbmdbeaaGreatDoor
