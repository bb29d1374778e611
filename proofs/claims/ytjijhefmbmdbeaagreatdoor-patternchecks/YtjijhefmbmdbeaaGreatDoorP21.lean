/-
  The reader: how it lies; the word at hand.
  slices.Insert of one part into a row of the call's own.
-/
import Derived.Test.YtjijhefmbmdbeaaGreatDoorP20
import Derived.Shelf.Spec.SlicesInsertGrow
import Derived.Laws.CopyRow
namespace Go.Proofs.YtjijhefmbmdbeaaGreatDoor
open Go.RowKit Go.Shelf

attribute [local irreducible] opsV
/-- The reader's cells. -/
def rdC (lv tk : Value) (k d : Nat) (pv : Value) : Array Value := #[lv] ++ opsV ++ #[tk, .int .i64 (k : Int), .int .i64 (d : Int), pv]
theorem rdC_hi (lv tk : Value) (k d : Nat) (pv : Value) (j : Nat) : (rdC lv tk k d pv)[71 + j]? = (#[tk, .int .i64 (k : Int), .int .i64 (d : Int), pv] : Array Value)[j]? := by
  unfold rdC
  rw [Array.getElem?_append_right (by rw [Array.size_append, opsV_size]; simp), Array.size_append, opsV_size]
  congr 1
  simp
theorem rdC_0 (lv tk : Value) (k d : Nat) (pv : Value) : (rdC lv tk k d pv)[0]? = some lv := by
  unfold rdC
  rw [Array.getElem?_append_left (by rw [Array.size_append, opsV_size]; simp), Array.getElem?_append_left (by simp)]
  rfl
theorem rdC_op (lv tk : Value) (k d : Nat) (pv : Value) (j : Nat) (h : j < 70) : (rdC lv tk k d pv)[1 + j]? = opsV[j]? := by
  unfold rdC
  rw [Array.getElem?_append_left (by rw [Array.size_append, opsV_size]; simp; omega), Array.getElem?_append_right (by simp)]
  congr 1
  simp
theorem rdC_71 (lv tk : Value) (k d : Nat) (pv : Value) : (rdC lv tk k d pv)[71]? = some tk := rdC_hi lv tk k d pv 0
theorem rdC_72 (lv tk : Value) (k d : Nat) (pv : Value) : (rdC lv tk k d pv)[72]? = some (.int .i64 (k : Int)) := rdC_hi lv tk k d pv 1
theorem rdC_73 (lv tk : Value) (k d : Nat) (pv : Value) : (rdC lv tk k d pv)[73]? = some (.int .i64 (d : Int)) := rdC_hi lv tk k d pv 2
theorem rdC_74 (lv tk : Value) (k d : Nat) (pv : Value) : (rdC lv tk k d pv)[74]? = some pv := rdC_hi lv tk k d pv 3
theorem opsV_len : opsV.toList.length = 70 := by rw [Array.length_toList]; exact opsV_size
theorem rdC_set (lv tk : Value) (k d : Nat) (pv v : Value) (j : Nat) : (rdC lv tk k d pv).setIfInBounds (71 + j) v = #[lv] ++ opsV ++ (#[tk, .int .i64 (k : Int), .int .i64 (d : Int), pv] : Array Value).setIfInBounds j v := by
  apply Array.ext'
  unfold rdC
  rw [Array.toList_setIfInBounds, Array.toList_append, Array.toList_append, Array.toList_append, Array.toList_append, Array.toList_setIfInBounds, List.set_append_right _ _ (by rw [List.length_append, opsV_len]; simp), List.length_append, opsV_len]
  congr 2
  simp
theorem rdC_k (lv tk : Value) (k k' d : Nat) (pv : Value) : (rdC lv tk k d pv).setIfInBounds 72 (.int .i64 (k' : Int)) = rdC lv tk k' d pv := rdC_set lv tk k d pv _ 1
theorem rdC_d (lv tk : Value) (k d d' : Nat) (pv : Value) : (rdC lv tk k d pv).setIfInBounds 73 (.int .i64 (d' : Int)) = rdC lv tk k d' pv := rdC_set lv tk k d pv _ 2
theorem rdC_p (lv tk : Value) (k d : Nat) (pv pv' : Value) : (rdC lv tk k d pv).setIfInBounds 74 pv' = rdC lv tk k d pv' := rdC_set lv tk k d pv _ 3
/-- The tokens lie below that block. -/
def TksLow (B : Nat) (W : World) (tk : Value) (l : List Tk) : Prop := ∃ b off cap, tk = .slice (some ⟨b, off, none⟩) l.length cap ∧ b < B ∧ ∀ i (h : i < l.length), W.cell? ⟨b, off + i * 4, none⟩ = some (.int .i64 l[i].kd) ∧ W.cell? ⟨b, off + i * 4 + 1, none⟩ = some (.string l[i].s) ∧ W.cell? ⟨b, off + i * 4 + 2, none⟩ = some (.int .i64 l[i].n) ∧ W.cell? ⟨b, off + i * 4 + 3, none⟩ = some (.int .i64 l[i].pl)
theorem TksLow.below {B : Nat} {W W' : World} {tk : Value} {l : List Tk} (h : TksLow B W tk l) (hb : Below B W W') : TksLow B W' tk l := by
  obtain ⟨b, off, cap, e, hlt, hc⟩ := h
  refine ⟨b, off, cap, e, hlt, fun i hi => ?_⟩
  obtain ⟨c0, c1, c2, c3⟩ := hc i hi
  exact ⟨(hb.cell (p := ⟨b, _, none⟩) hlt).trans c0, (hb.cell (p := ⟨b, _, none⟩) hlt).trans c1, (hb.cell (p := ⟨b, _, none⟩) hlt).trans c2, (hb.cell (p := ⟨b, _, none⟩) hlt).trans c3⟩
/-- Which function reads a level. -/
def lvF (n : Nat) : Nat := if n = 2 then 176 else if n = 3 then 177 else if n = 6 then 178 else 175
/-- A level's operations lie there. -/
def OpsLow (B : Nat) (W : World) (ov : Value) (os : List Int) : Prop := (os = [] ∧ ov = .slice none 0 0) ∨ ∃ b, ov = .slice (some ⟨b, 0, none⟩) os.length os.length ∧ b < B ∧ ∀ i (h : i < os.length), W.cell? ⟨b, i, none⟩ = some (.int .i64 os[i])
theorem OpsLow.below {B : Nat} {W W' : World} {ov : Value} {os : List Int} (h : OpsLow B W ov os) (hb : Below B W W') : OpsLow B W' ov os := by
  rcases h with h | ⟨b, e, hlt, hc⟩
  · exact Or.inl h
  · exact Or.inr ⟨b, e, hlt, fun i hi => (hb.cell (p := ⟨b, _, none⟩) hlt).trans (hc i hi)⟩
def LvsLow (B : Nat) (W : World) (lv : Value) : Prop := ∃ b, lv = .slice (some ⟨b, 0, none⟩) 7 7 ∧ b < B ∧ ∀ n, n < 7 → W.cell? ⟨b, n * 2, none⟩ = some (.func (.func (lvF n)) #[] #[]) ∧ ∃ ov, W.cell? ⟨b, n * 2 + 1, none⟩ = some ov ∧ OpsLow B W ov (lvO n)
theorem LvsLow.below {B : Nat} {W W' : World} {lv : Value} (h : LvsLow B W lv) (hb : Below B W W') : LvsLow B W' lv := by
  obtain ⟨b, e, hlt, hc⟩ := h
  refine ⟨b, e, hlt, fun n hn => ?_⟩
  obtain ⟨c0, ov, c1, c2⟩ := hc n hn
  exact ⟨(hb.cell (p := ⟨b, _, none⟩) hlt).trans c0, ov, (hb.cell (p := ⟨b, _, none⟩) hlt).trans c1, c2.below hb⟩
/-- What lies below the reader. -/
structure Env (gr : Nat) (lv tk : Value) (l : List Tk) (W : World) : Prop where
  tks : TksLow gr W tk l
  lvs : LvsLow gr W lv
  tab : TbE W
  low : 9 ≤ gr
  len : l.length ≤ 100000
  ok : ∀ t ∈ l, t.s.size ≤ 140737488351232
theorem Env.below {gr : Nat} {lv tk : Value} {l : List Tk} {W W' : World} (h : Env gr lv tk l W) (hb : Below gr W W') : Env gr lv tk l W' := ⟨h.tks.below hb, h.lvs.below hb, h.tab.below hb h.low, h.low, h.len, h.ok⟩
def ptE (p : Pt) : List Value := [.int .i64 p.kd, .int .i64 p.n, .string p.s, .string p.st, .int .i64 p.fl]
theorem ptE_len (p : Pt) : (ptE p).length = 5 := rfl
/-- The reader lies there: it stands at a token, so many deep, and has read these parts. -/
structure Rd (gr : Nat) (lv tk : Value) (l : List Tk) (k d : Nat) (ps : List Pt) (W : World) : Prop where
  env : Env gr lv tk l W
  box : ∃ pv, CBox gr (rdC lv tk k d pv) 204 W ∧ W.ownsRow (gr + 1) 86 5 pv ps.length (ps.flatMap ptE)
theorem Rd.below {gr : Nat} {lv tk : Value} {l : List Tk} {k d : Nat} {ps : List Pt} {W W' : World} (h : Rd gr lv tk l k d ps W) (hb : Below W.heap.size W W') : Rd gr lv tk l k d ps W' := by
  obtain ⟨pv, h1, h2⟩ := h.box
  have hlt := (Array.getElem?_eq_some_iff.1 h1).1
  have hk := Kp.ofBelow hb
  exact ⟨h.env.below (hb.mono (by omega)), pv, h1.kp hk (by simp), row_kp h2 hk (by simp)⟩
def wdS (t : Tk) : ByteArray := if t.kd = 1 ∨ t.kd = 4 then t.s else ⟨#[]⟩
theorem wdS_list (t : Tk) : (wdS t).data.toList = wdT t := by unfold wdS wdT; split <;> rfl
theorem drop_at {l : List Tk} {k : Nat} {t : Tk} {r : List Tk} (h : l.drop k = t :: r) : ∃ hk : k < l.length, l[k] = t ∧ l.drop (k + 1) = r := by
  have hk : k < l.length := by
    rcases Nat.lt_or_ge k l.length with h1 | h1
    · exact h1
    · rw [List.drop_eq_nil_of_le h1] at h; cases h
  rw [List.drop_eq_getElem_cons hk] at h
  cases h
  exact ⟨hk, rfl, rfl⟩
set_option maxHeartbeats 2000000 in
set_option maxRecDepth 100000 in
theorem word_any {gr : Nat} {lv tk : Value} {l : List Tk} {k d : Nat} {ps : List Pt} {W : World} (h : Rd gr lv tk l k d ps W) {t : Tk} {r : List Tk} (ht : l.drop k = t :: r) :
    Calls Tryz.prog 199 #[.pointer (some ⟨gr, 0, none⟩)] W fun e w' => e = .returned (.string (wdS t)) ∧ Below W.heap.size W w' := by
  obtain ⟨hk, ha, _⟩ := drop_at ht
  obtain ⟨pv, hb, _⟩ := h.box
  obtain ⟨b, off, cap, htk, hlt, hc⟩ := h.env.tks
  obtain ⟨c0, c1, c2, c3⟩ := hc k hk
  rw [ha] at c0 c1 c2 c3
  have hlen := h.env.len
  have hgl := (Array.getElem?_eq_some_iff.1 hb).1
  have e1 := hb.cell (rdC_71 lv tk k d pv)
  have e2 := hb.cell (rdC_72 lv tk k d pv)
  rw [htk] at e1
  clear h hb hc ha htk ht
  have al : ∀ {q : Addr} {v : Value}, W.cell? q = some v → q.block < W.heap.size → (W.alloc (.cells #[.int .i64 0, .string { data := #[] }, .int .i64 0, .int .i64 0] 74)).cell? q = some v := fun h _ => (Kp.alloc W _).cell h (by simp)
  have d0 := al c0 (by show b < _; omega)
  have d1 := al c1 (by show b < _; omega)
  have d2 := al c2 (by show b < _; omega)
  have d3 := al c3 (by show b < _; omega)
  have g1 := al e1 hgl
  have g2 := al e2 hgl
  clear al
  unfold wdS
  obtain ⟨kd, s, n, pl⟩ := t
  dsimp only at *
  go_enter Tryz.func199, Tryz.ntmps199
  go_wp2
  go_region
  clear c0 c1 c2 c3 d0 d1 d2 d3 e1 e2 g1 g2
  have hb : ∀ o, Below W.heap.size W (W.alloc o).drew := fun o => ((Below.refl _ _).alloc (Nat.le_refl _) _).trans ⟨rfl, rfl, rfl, Nat.le_refl _, fun _ _ => rfl⟩
  by_cases h1 : kd = 1
  · subst h1
    go_wp2
    exact bodyPost_ret (results_tmp rfl _ _ _) rfl ⟨rfl, hb _⟩
  · by_cases h4 : kd = 4
    · subst h4
      go_wp2
      exact bodyPost_ret (results_tmp rfl _ _ _) rfl ⟨rfl, hb _⟩
    · have g1 : (kd == 1) = false := beq_eq_false_iff_ne.2 h1
      have g4 : (kd == 4) = false := beq_eq_false_iff_ne.2 h4
      go_wp2
      exact bodyPost_ret (results_tmp rfl _ _ _) rfl ⟨by first | rfl | (rw [if_neg (by omega)]; rfl), hb _⟩
/-- One token on. -/
theorem Rd.next {gr : Nat} {lv tk : Value} {l : List Tk} {k d : Nat} {ps : List Pt} {W : World} (h : Rd gr lv tk l k d ps W) : Rd gr lv tk l (k + 1) d ps (W.setCell ⟨gr, 72, none⟩ (.int .i64 ((k : Int) + 1))) := by
  obtain ⟨pv, h1, h2⟩ := h.box
  have hlt := (Array.getElem?_eq_some_iff.1 h1).1
  have e : ((k : Int) + 1) = ((k + 1 : Nat) : Int) := by omega
  rw [e]
  have c := h1.set 72 (.int .i64 ((k + 1 : Nat) : Int))
  rw [rdC_k] at c
  exact ⟨h.env.below ((Kp.set W gr 72 _).below (by omega) (by simp)), pv, c, row_kp h2 (Kp.set _ _ _ _) (fun g hg => by have := (h2.lt g hg).1; simp; omega)⟩
theorem Rd.cells {gr : Nat} {lv tk : Value} {l : List Tk} {k d : Nat} {ps : List Pt} {W : World} (h : Rd gr lv tk l k d ps W) : W.cell? ⟨gr, 72, none⟩ = some (.int .i64 (k : Int)) ∧ W.cell? ⟨gr, 73, none⟩ = some (.int .i64 (d : Int)) ∧ (∀ i, W.frozen? ⟨gr, i, none⟩ = false) ∧ gr < W.heap.size := by
  obtain ⟨pv, h1, h2⟩ := h.box
  exact ⟨h1.cell (rdC_72 lv tk k d pv), h1.cell (rdC_73 lv tk k d pv), h1.froz, (Array.getElem?_eq_some_iff.1 h1).1⟩
set_option maxHeartbeats 2000000 in
set_option maxRecDepth 100000 in
theorem skip_any {gr : Nat} {lv tk : Value} {l : List Tk} {k d : Nat} {ps : List Pt} {W : World} (h : Rd gr lv tk l k d ps W) {t : Tk} {r : List Tk} (ht : l.drop k = t :: r) (sg : ByteArray) :
    Calls Tryz.prog 192 #[.pointer (some ⟨gr, 0, none⟩), .string sg] W fun e w' => e = .returned (.bool (decide (wdT t = sg.data.toList))) ∧ Rd gr lv tk l (if wdT t = sg.data.toList then k + 1 else k) d ps w' ∧ Below gr W w' := by
  have WD := hide (word_any h ht)
  have hk : k ≤ 100000 := by obtain ⟨hk, _⟩ := drop_at ht; have := h.env.len; omega
  have HR := hide h
  rw [← wdS_list]
  clear h ht
  generalize wdS t = S at *
  by_cases he : S.data.toList = sg.data.toList
  · have heq : (S.toList == sg.toList) = true := by rw [toList_data, toList_data, he]; exact beq_self_eq_true _
    rw [if_pos he, decide_eq_true he]
    clear he
    go_enter Tryz.func192, Tryz.ntmps192
    go_wp2_with fail
    refine (unhide WD).mono ?_
    rintro e w1 ⟨rfl, hb⟩
    have HR1 := hide ((unhide HR).below hb)
    obtain ⟨c72, _, f72, _⟩ := (unhide HR1).cells
    have HB := hide (hb.mono (show gr ≤ W.heap.size by have := (unhide HR).cells; omega))
    clear hb HR WD
    go_wp2
    refine bodyPost_ret (results_tmp rfl _ _ _) rfl ⟨rfl, (unhide HR1).next, (unhide HB).setCell (p := ⟨gr, 72, none⟩) (Nat.le_refl _) _⟩
  · have heq : (S.toList == sg.toList) = false := by rw [toList_data, toList_data]; exact beq_eq_false_iff_ne.2 he
    rw [if_neg he, decide_eq_false he]
    clear he
    go_enter Tryz.func192, Tryz.ntmps192
    go_wp2_with fail
    refine (unhide WD).mono ?_
    rintro e w1 ⟨rfl, hb⟩
    have HR1 := hide ((unhide HR).below hb)
    have HB := hide (hb.mono (show gr ≤ W.heap.size by have := (unhide HR).cells; omega))
    clear hb HR WD
    go_wp2
    exact bodyPost_ret (results_tmp rfl _ _ _) rfl ⟨rfl, unhide HR1, unhide HB⟩
end Go.Proofs.YtjijhefmbmdbeaaGreatDoor
namespace Go.Proofs.YtjijhefmbmdbeaaGreatDoor
open Go.RowKit Go.Shelf

theorem run_copy_rowN {P : Program} (w : World) (dT sT ty elem : TypeId) (sz g o dLen dCap : Nat) (a : Addr) (sLen sCap m : Nat) (cur : Array Value) (t : TypeId) (cs : List Value)
    (hu : P.underlying dT = some (.slice elem)) (hs : (P.info? elem).map (·.size) = some sz)
    (hg : w.heap[g]? = some (.cells cur t (0, 0))) (hm : Nat.min sLen dLen = m) (hn : cs.length = m * sz)
    (hsrc : ∀ j v, cs[j]? = some v → w.cell? (a.add j) = some v) (hfit : o + cs.length ≤ cur.size) (h1 : ∀ v ∈ cs, v.oneCell' = true) :
    (Builtin.copy_ #[dT, sT] ty #[.slice (some ⟨g, o, none⟩) dLen dCap, .slice (some a) sLen sCap]).run P w =
      .ok (goInt m) (w.setRow g (cur.toList.take o ++ cs ++ cur.toList.drop (o + cs.length)).toArray) := by
  have hl := run_loadCells_list (P := P) w a cs hsrc
  have hst := run_storeCells_at P g o t cs 0 cur w hg (by simpa using hfit) h1
  cases hq : P.info? elem with
  | none => simp [hq] at hs
  | some i =>
    have hi : i.size = sz := by simpa [hq] using hs
    simp [Builtin.copy_, run_underlying hu, Builtin.lenOf, Builtin.firstCells, sizeOf, typeInfo, hq, hi, hm, ← hn, hl, hst]
theorem info_part : (Tryz.prog.info? 86).map (·.size) = some 5 := by kernel_rfl
theorem ptE_one (xs : List Pt) : ∀ v ∈ xs.flatMap ptE, v.oneCell' = true := by
  intro v hv
  obtain ⟨p, _, hp⟩ := List.mem_flatMap.1 hv
  simp only [ptE, List.mem_cons, List.not_mem_nil, or_false] at hp
  rcases hp with rfl | rfl | rfl | rfl | rfl <;> rfl
theorem flat_drop {α : Type} (enc : α → List Value) (sz : Nat) (he : ∀ a, (enc a).length = sz) (l : List α) (m : Nat) : (l.flatMap enc).drop (m * sz) = (l.drop m).flatMap enc := by
  induction l generalizing m with
  | nil => simp
  | cons a r ih =>
    cases m with
    | zero => simp
    | succ m =>
      rw [List.flatMap_cons, List.drop_succ_cons, ← ih m, List.drop_append, he, List.drop_eq_nil_of_le (by rw [he, Nat.add_mul]; omega), List.nil_append, show (m + 1) * sz - sz = m * sz by rw [Nat.add_mul]; omega]
theorem ins_list (A X P D : List Value) (n i c : Nat) (hA : A.length = c * 5) (hX : A.take (n * 5) = X) (hD : D = X.drop (i * 5)) (hP : P.length = 5) (hi : i < n) (hc : n + 1 ≤ c) (A1 A2 : List Value) (h1 : A1 = A.take ((i + 1) * 5) ++ D ++ A.drop ((i + 1) * 5 + D.length)) (h2 : A2 = A1.take (i * 5) ++ P ++ A1.drop (i * 5 + P.length)) :
    A1.length = c * 5 ∧ A2.length = c * 5 ∧ A2.take ((n + 1) * 5) = X.take (i * 5) ++ (P ++ D) ∧ D.length = (n - i) * 5 := by
  have lX : X.length = n * 5 := by rw [← hX, List.length_take, hA]; omega
  have lD : D.length = (n - i) * 5 := by rw [hD, List.length_drop, lX]; omega
  have l1 : A1.length = c * 5 := by rw [h1]; simp only [List.length_append, List.length_take, List.length_drop, hA, lD]; omega
  have t1 : A1.take (i * 5) = X.take (i * 5) := by
    rw [h1, List.append_assoc, List.take_append_of_le_length (by rw [List.length_take, hA]; omega), List.take_take, ← hX, List.take_take]
    congr 1
    omega
  have d1 : A1.drop (i * 5 + P.length) = D ++ A.drop ((i + 1) * 5 + D.length) := by
    rw [h1, List.append_assoc, List.drop_append_of_le_length (by rw [List.length_take, hA, hP]; omega), List.drop_eq_nil_of_le (by rw [List.length_take, hA, hP]; omega), List.nil_append]
  have l2 : A2.length = c * 5 := by rw [h2]; simp only [List.length_append, List.length_take, List.length_drop, l1, hP]; omega
  refine ⟨l1, l2, ?_, lD⟩
  rw [h2, t1, d1, ← List.append_assoc, ← List.append_assoc, List.take_append_of_le_length (by simp only [List.length_append, List.length_take, lX, hP, lD]; omega), List.take_of_length_le (by simp only [List.length_append, List.length_take, lX, hP, lD]; omega)]
/-- The cells of a row behind the first. -/
theorem row_from {w : World} {g n i : Nat} {cur : Array Value} {t : TypeId} {xs : List Pt} (hg : w.heap[g]? = some (.cells cur t (0, 0))) (hx : cur.toList.take (n * 5) = xs.flatMap ptE) :
    ∀ j v, ((xs.drop i).flatMap ptE)[j]? = some v → w.cell? ((⟨g, i * 5, none⟩ : Addr).add j) = some v := fun j v hj => by
  rw [Addr.add_lit]
  rw [← flat_drop ptE 5 ptE_len, List.getElem?_drop, ← hx, List.getElem?_take] at hj
  split at hj
  · simp only [World.cell?, hg]
    rw [← Array.getElem?_toList]
    exact hj
  · cases hj
set_option maxHeartbeats 4000000 in
set_option maxRecDepth 100000 in
theorem insert_shift (g n c i vb vc : Nat) (cur : Array Value) (xs : List Pt) (p : Pt) (w : World) (hn : xs.length = n) (hi : i < n) (hroom : n + 1 ≤ c) (hc : c ≤ maxLen) (hg : w.heap[g]? = some (.cells cur 86 (0, 0))) (hcs : cur.size = c * 5) (hx : cur.toList.take (n * 5) = xs.flatMap ptE) (hv : CBox vb (ptE p).toArray 86 w) (hne : vb ≠ g) :
    Calls Tryz.prog 198 #[.slice (some ⟨g, 0, none⟩) n c, .int .i64 (i : Int), .slice (some ⟨vb, 0, none⟩) 1 vc] w fun e w' => e = .returned (.slice (some ⟨g, 0, none⟩) (n + 1) c) ∧ ∃ cur' : Array Value, w' = w.drew.setRow g cur' ∧ cur'.size = c * 5 ∧ cur'.toList.take ((n + 1) * 5) = (xs.take i ++ p :: xs.drop i).flatMap ptE := by
  have hc63 : c ≤ 9223372036854775807 := by unfold maxLen at hc; omega
  have hov : ∀ lb cb, (callFunc 204 #[.slice (some ⟨vb, 0, none⟩) 1 vc, .slice (some ⟨g, (i + 1) * 5, none⟩) lb cb]).run Tryz.prog w = .ok (.value (.bool false)) w := fun lb cb => by
    rw [run_callFunc_extern Tryz.func204 (by kernel_rfl) (by kernel_rfl) (by kernel_rfl) (e := Extern.SlicesOverlaps.overlaps #[52, 52] #[4]) (by kernel_rfl),
      Lib.run_overlaps_apart w 52 4 86 Tryz.underlying52 5 Tryz.sizeOf86 ⟨vb, 0, none⟩ ⟨g, (i + 1) * 5, none⟩ 1 vc lb cb hne 86 86 5 (c * 5) (by unfold CBox at hv; simp [World.shape?, hv, ptE]) (by simp [World.shape?, hg, hcs]) (by omega) (hv.froz 0) (hv.froz 5)]
    rfl
  have hw1 : IntKind.i64.wrap ((i : Int) + 1) = (i : Int) + 1 := by rw [IntKind.wrap_i64]; omega
  have hb1 : (0 : Int) ≤ (i : Int) + 1 := by omega
  have htn : ((i : Int) + 1).toNat = i + 1 := by omega
  have hin : i ≤ n := by omega
  have hz2 : ¬ ((i : Int) = (n : Int)) := by omega
  have hb2 : ¬ (c = i + 1) := by omega
  have hb4 : ¬ (c = i) := by omega
  have hb3 : (i : Int) ≤ (n : Int) + 1 := by omega
  have hlen : cur.toList.length = c * 5 := by rw [Array.length_toList]; exact hcs
  obtain ⟨A1, hA1⟩ : ∃ A1, A1 = cur.toList.take ((i + 1) * 5) ++ (xs.drop i).flatMap ptE ++ cur.toList.drop ((i + 1) * 5 + ((xs.drop i).flatMap ptE).length) := ⟨_, rfl⟩
  obtain ⟨A2, hA2⟩ : ∃ A2, A2 = A1.take (i * 5) ++ ptE p ++ A1.drop (i * 5 + (ptE p).length) := ⟨_, rfl⟩
  obtain ⟨l1, l2, l3, l4⟩ := ins_list cur.toList (xs.flatMap ptE) (ptE p) ((xs.drop i).flatMap ptE) n i c hlen hx (flat_drop ptE 5 ptE_len xs i).symm rfl hi hroom A1 A2 hA1 hA2
  have hcp1 : ∀ ty dc sc, (Builtin.copy_ #[52, 52] ty #[.slice (some ⟨g, (i + 1) * 5, none⟩) (n - i) dc, .slice (some ⟨g, i * 5, none⟩) (n + 1 - i) sc]).run Tryz.prog w.drew = .ok (goInt ((n - i : Nat) : Int)) (w.drew.setRow g A1.toArray) := fun ty dc sc => by
    rw [hA1]
    exact run_copy_rowN w.drew _ _ ty 86 5 g ((i + 1) * 5) (n - i) dc ⟨g, i * 5, none⟩ (n + 1 - i) sc (n - i) cur 86 _ Tryz.underlying52 info_part hg (by simp only [Nat.min_def]; split <;> omega) l4 (row_from (w := w.drew) hg hx) (by rw [l4, hcs]; omega) (ptE_one _)
  have hg1 : (w.drew.setRow g A1.toArray).heap[g]? = some (.cells A1.toArray 86 (0, 0)) := setRow_heap w.drew g cur _ _ _ hg
  have hcp2 : ∀ ty dc, (Builtin.copy_ #[52, 52] ty #[.slice (some ⟨g, i * 5, none⟩) (n + 1 - i) dc, .slice (some ⟨vb, 0, none⟩) 1 vc]).run Tryz.prog (w.drew.setRow g A1.toArray) = .ok (goInt 1) (w.drew.setRow g A2.toArray) := fun ty dc => by
    have := run_copy_rowN (P := Tryz.prog) (w.drew.setRow g A1.toArray) 52 52 ty 86 5 g (i * 5) (n + 1 - i) dc ⟨vb, 0, none⟩ 1 vc 1 A1.toArray 86 (ptE p) Tryz.underlying52 info_part hg1 (by simp only [Nat.min_def]; split <;> omega) rfl (fun j v hj => by
      rw [Addr.add_lit]
      refine (World.cell?_of_block ?_).trans (hv.cell (i := 0 + j) (by rw [Nat.zero_add]; simpa using hj))
      simp [World.setRow, Array.getElem?_modify, hne.symm]
      rfl) (by rw [ptE_len]; simp [l1]; omega) (fun v hv => ptE_one [p] v (by simpa using hv))
    rw [this, setRow_setRow, hA2]
    rfl
  have HF := hide (And.intro l2 l3)
  have mixed : Tryz.prog.follows .mixedOrders = true := by kernel_rfl
  clear hA1 hA2 l1 l2 l3 l4 hg1 hlen hx hcs hv hg
  go_enter Tryz.func198, Tryz.ntmps198
  go_wp2_with (simp only [hov])
  go_region_law_o (refine step_copy_runI rfl _ _ 52 52 rfl _ _ (by simp [Act.eval, Act.put]) (by simp [Act.eval, Act.put]) (hcp1 _ _ _) ?_)
  go_wp2_with (at_builtin; refine wpList_copy_runI _ rfl _ _ 52 52 rfl _ _ rfl rfl (hcp2 _ _) ?_)
  go_ret
  obtain ⟨l2, l3⟩ := unhide HF
  refine ⟨rfl, A2.toArray, rfl, by simpa using l2, ?_⟩
  rw [List.flatMap_append, List.flatMap_cons, ← flat_take ptE 5 ptE_len]
  exact l3
end Go.Proofs.YtjijhefmbmdbeaaGreatDoor
