/-
  EventGrows: the last stage grows.
-/
import Derived.Test.YtnikkjbjidhhlaaGwB
namespace Go.Proofs.Ytnikkjbjidhhlaa
open Go.RowKit

theorem VRo.cell {w : World} {v : Value} {vs : List Value} (h : VRo w v vs) (i : Nat) (x : Value) (hx : vs[i]? = some x) : ∃ g c, v = .slice (some ⟨g, 0, none⟩) vs.length c ∧ w.cell? ⟨g, i, none⟩ = some x ∧ w.frozen? ⟨g, i, none⟩ = false ∧ ∀ y, VRo (w.setCell ⟨g, i, none⟩ y) v (vs.set i y) := by
  have hi : i < vs.length := (List.getElem?_eq_some_iff.1 hx).1
  obtain ⟨h0, ⟨rfl, h1⟩ | ⟨g, cap, cur, rfl, hg, hh, h2, h3, h4, h5⟩⟩ := h
  · omega
  · have hc : cur[i]? = some x := by
      rw [← h5, List.getElem?_take_of_lt (by omega)] at hx
      simpa using hx
    refine ⟨g, cap, rfl, by simp [World.cell?, hh, hc], by simp [World.frozen?, hh], fun y => ⟨by simp, Or.inr ⟨g, cap, cur.setIfInBounds i y, by rw [List.length_set], hg, ?_, by simpa using h2, h3, by simpa using h4, ?_⟩⟩⟩
    · have hb : CBox g cur 34 w := hh
      exact hb.set i y
    · have e : (cur.setIfInBounds i y).toList = cur.toList.set i y := by simp
      rw [e, List.length_set, List.take_set, h5]
theorem lastM_snoc (SS : List (List Int)) (p : List Int) : lastM (SS ++ [p]) = lastI p := by
  unfold lastM
  congr 1
  rw [List.length_append, List.getD_eq_getElem?_getD]
  simp
theorem moreL_snoc (B : Int) (SS : List (List Int)) (p : List Int) : moreL B (SS ++ [p]) = SS ++ [p ++ [lastI p + B]] := by
  unfold moreL
  rw [lastM_snoc, List.length_append, List.getD_eq_getElem?_getD]
  simp
section
variable {w W : World} {gm gl : Nat} {k : ByteArray} {va la : Option Addr} {vc lc : Nat} {ms ls : List Value} {ss pl : List (List Int)}
/-- The last stage, and where it lies. -/
theorem GwS.last (h : GwS w W gm gl k (.slice va ms.length vc) (.slice la ls.length lc) ms ls ss pl) (h0 : 0 < ss.length) (hne : ∀ p ∈ ss, 0 < p.length) :
    ∃ (gv gr cr : Nat) (A : List Value) (SS : List (List Int)) (p : List Int), va = some ⟨gv, 0, none⟩ ∧ ms = A ++ [.slice (some ⟨gr, 0, none⟩) p.length cr] ∧ ss = SS ++ [p] ∧ 0 < p.length ∧ A.length = SS.length ∧
      (∀ W', Kp [] W W' → W'.cell? ⟨gm, 1, none⟩ = some (.slice (some ⟨gv, 0, none⟩) (A.length + 1) vc) ∧ W'.cell? ⟨gv, A.length, none⟩ = some (.slice (some ⟨gr, 0, none⟩) p.length cr) ∧ W'.cell? ⟨gr, p.length - 1, none⟩ = some (.int .i64 (lastI p)) ∧ W'.ownsRow 0 3 1 (.slice (some ⟨gr, 0, none⟩) p.length cr) p.length (iC p)) := by
  have hl := h.tw.sm.inn.1
  rcases List.eq_nil_or_concat ss with e | ⟨SS, p, e⟩
  · rw [e] at h0; simp at h0
  rcases List.eq_nil_or_concat ms with e' | ⟨A, r, e'⟩
  · rw [e'] at hl; simp at hl; omega
  rw [List.concat_eq_append] at e e'
  subst e e'
  have hAl : A.length = SS.length := by simpa using hl
  have hp0 : 0 < p.length := hne p (by simp)
  have hr := h.tw.sm.inn.2 A.length r p (by simp) (by rw [hAl]; simp)
  obtain ⟨gv, c, e1, _, _, _⟩ := h.tw.sm.row.cell A.length r (by simp)
  simp only [Value.slice.injEq] at e1
  obtain ⟨rfl, _, rfl⟩ := e1
  obtain ⟨_, ⟨_, e3⟩ | ⟨gr, cr, cur, rfl, _⟩⟩ := id hr
  · omega
  refine ⟨gv, gr, cr, A, SS, p, rfl, rfl, rfl, hp0, hAl, fun W' hk => ?_⟩
  have t := h.tw.on hk
  have hr' := t.sm.inn.2 A.length (.slice (some ⟨gr, 0, none⟩) p.length cr) p (by simp) (by rw [hAl]; simp)
  obtain ⟨gv', c', e1, cc, _, _⟩ := t.sm.row.cell A.length (.slice (some ⟨gr, 0, none⟩) p.length cr) (by simp)
  simp only [Value.slice.injEq] at e1
  obtain ⟨e4, _, rfl⟩ := e1
  injection e4 with e4
  injection e4 with e4
  subst e4
  obtain ⟨a, c2, e5, hI⟩ := hr'.at
  simp only [Value.slice.injEq] at e5
  obtain ⟨rfl, _, rfl⟩ := e5
  obtain ⟨b, off, e6, _, hcc⟩ := hI (fun e => by rw [e] at hp0; simp at hp0)
  injection e6 with e6
  injection e6 with e6 e7
  subst e6 e7
  have hz := hcc (p.length - 1) (by omega)
  rw [← lastI_get hp0, Nat.zero_add] at hz
  refine ⟨?_, cc, hz, hr'⟩
  have hb := t.sm.box.cell (i := 1) rfl
  rw [List.length_append] at hb
  exact hb
/-- A place more at its end. -/
theorem GwS.grow {gv gr cr : Nat} {A : List Value} {SS : List (List Int)} {p : List Int} (h : GwS w W gm gl k (.slice (some ⟨gv, 0, none⟩) (A ++ [Value.slice (some ⟨gr, 0, none⟩) p.length cr]).length vc) (.slice la ls.length lc) (A ++ [Value.slice (some ⟨gr, 0, none⟩) p.length cr]) ls (SS ++ [p]) pl) (hA : A.length = SS.length) {x : Int} {w7 : World} {g7 cap7 : Nat}
    (hown : w7.ownsRow 0 3 1 (.slice (some ⟨g7, 0, none⟩) (p.length + 1) cap7) (p.length + 1) (iC p ++ [.int .i64 x])) (hgr : (W.alloc (.cells #[.int .i64 x] 3)).drew.grownBy w7 (some gr)) :
    w7.cell? ⟨gm, 1, none⟩ = some (.slice (some ⟨gv, 0, none⟩) (A.length + 1) vc) ∧ w7.cell? ⟨gv, A.length, none⟩ = some (.slice (some ⟨gr, 0, none⟩) p.length cr) ∧ w7.frozen? ⟨gv, A.length, none⟩ = false ∧
      TwS w (w7.setCell ⟨gv, A.length, none⟩ (.slice (some ⟨g7, 0, none⟩) (p.length + 1) cap7)) gm gl k (.slice (some ⟨gv, 0, none⟩) (A ++ [Value.slice (some ⟨gr, 0, none⟩) p.length cr]).length vc) (.slice la ls.length lc) (A ++ [Value.slice (some ⟨g7, 0, none⟩) (p.length + 1) cap7]) ls (SS ++ [p ++ [x]]) pl := by
  have hk1 : Kp [] W (W.alloc (.cells #[.int .i64 x] 3)).drew := (Kp.alloc _ _).trans (Kp.drew _) (by simp)
  have t1 := h.tw.on hk1
  have k7 : Kp [gr] (W.alloc (.cells #[.int .i64 x] 3)).drew w7 := Kp.of hgr
  have hr := t1.sm.inn.2 A.length (.slice (some ⟨gr, 0, none⟩) p.length cr) p (by simp) (by rw [hA]; simp)
  obtain ⟨cur, hcur⟩ := hr.block (b := gr) rfl
  have hnbox : ∀ {g : Nat} {cs : Array Value}, CBox g cs 28 (W.alloc (.cells #[.int .i64 x] 3)).drew → g ∉ [gr] := fun {g cs} hb hm => by
    rw [List.mem_singleton] at hm
    subst hm
    have hx : (W.alloc (.cells #[.int .i64 x] 3)).drew.heap[g]? = _ := hb
    rw [hcur] at hx
    injection hx with e; injection e with _ e; exact absurd e (by decide)
  have hnrow : ∀ {v : Value} {vs : List Value}, VRo (W.alloc (.cells #[.int .i64 x] 3)).drew v vs → ∀ b, v.ownBlock = some b → b ∉ [gr] := fun {v vs} hv b hb hm => by
    rw [List.mem_singleton] at hm
    subst hm
    obtain ⟨cur', hx⟩ := hv.block hb
    rw [hcur] at hx
    injection hx with e; injection e with _ e; exact absurd e (by decide)
  have hsep := h.la.2 A _ rfl gr rfl
  have bm7 := t1.sm.box.kp k7 (hnbox t1.sm.box)
  have bl7 := t1.sl.box.kp k7 (hnbox t1.sl.box)
  have rm7 := t1.sm.row.kp k7 (hnrow t1.sm.row)
  have rl7 := t1.sl.row.kp k7 (hnrow t1.sl.row)
  have il7 : RowsI w7 ls pl := ⟨t1.sl.inn.1, fun i v q hv hq => (t1.sl.inn.2 i v q hv hq).kp k7 (fun b hb hm => by
    rw [List.mem_singleton] at hm
    subst hm
    exact hsep v (List.mem_append.2 (Or.inr (List.mem_of_getElem? hv))) hb)⟩
  have ia7 : RowsI w7 A SS := ⟨hA, fun i v q hv hq => by
    have hi : i < A.length := (List.getElem?_eq_some_iff.1 hv).1
    refine (t1.sm.inn.2 i v q (by rw [List.getElem?_append_left hi]; exact hv) (by rw [List.getElem?_append_left (by omega)]; exact hq)).kp k7 (fun b hb hm => ?_)
    rw [List.mem_singleton] at hm
    subst hm
    exact hsep v (List.mem_append.2 (Or.inl (List.mem_of_getElem? hv))) hb⟩
  have hr7 : IRo w7 (.slice (some ⟨g7, 0, none⟩) (p.length + 1) cap7) (p ++ [x]) := by
    unfold IRo iC
    rw [List.length_append, List.map_append]
    exact hown
  have im7 := ia7.snoc hr7
  obtain ⟨gv', c', e1, cc, ff, hset⟩ := rm7.cell A.length (.slice (some ⟨gr, 0, none⟩) p.length cr) (by simp)
  simp only [Value.slice.injEq] at e1
  obtain ⟨e4, _, rfl⟩ := e1
  injection e4 with e4
  injection e4 with e4
  subst e4
  have hks := Kp.set w7 gv A.length (.slice (some ⟨g7, 0, none⟩) (p.length + 1) cap7)
  obtain ⟨curv, hcurv⟩ := rm7.block (b := gv) rfl
  have hnI : NoI w7 [gv] := fun f hf cur fr hc => by
    rw [List.mem_singleton] at hf
    subst hf
    rw [hcurv] at hc
    injection hc with e; injection e with _ e; exact absurd e (by decide)
  have hnbox7 : ∀ {g : Nat} {cs : Array Value}, CBox g cs 28 w7 → g ∉ [gv] := fun {g cs} hb hm => by
    rw [List.mem_singleton] at hm
    subst hm
    have hx : w7.heap[g]? = _ := hb
    rw [hcurv] at hx
    injection hx with e; injection e with _ e; exact absurd e (by decide)
  have hbm : w7.cell? ⟨gm, 1, none⟩ = some (.slice (some ⟨gv, 0, none⟩) (A ++ [Value.slice (some ⟨gr, 0, none⟩) p.length cr]).length vc) := bm7.cell rfl
  rw [List.length_append] at hbm
  have hgrw : w.heap.size ≤ gr := (h.la.1 (.slice (some ⟨gr, 0, none⟩) p.length cr) (by simp) gr rfl).1
  refine ⟨hbm, cc, ff, ⟨((t1.kp.trans k7 (by intro z hz; rw [List.mem_singleton] at hz; right; omega)).trans hks ?_), ⟨bm7.kp hks (hnbox7 bm7), ?_, im7.kpT hks hnI⟩, ⟨bl7.kp hks (hnbox7 bl7), rl7.kp hks ?_, il7.kpT hks hnI⟩, h.tw.ne, h.tw.om, h.tw.ol, h.tw.ap⟩⟩
  · intro z hz
    rw [List.mem_singleton] at hz
    right
    rw [hz]
    exact h.tw.om gv (List.mem_cons_of_mem _ (by simp [Value.ownBlock]))
  · have := hset (.slice (some ⟨g7, 0, none⟩) (p.length + 1) cap7)
    have e : (A ++ [Value.slice (some ⟨gr, 0, none⟩) p.length cr]).set A.length (.slice (some ⟨g7, 0, none⟩) (p.length + 1) cap7) = A ++ [.slice (some ⟨g7, 0, none⟩) (p.length + 1) cap7] := by simp
    rw [e] at this
    exact this
  · intro b hb hm
    rw [List.mem_singleton] at hm
    subst hm
    exact h.tw.ap b rfl hb
end
theorem GwS.on {w W W' : World} {gm gl : Nat} {k : ByteArray} {vm vl : Value} {ms ls : List Value} {pm pl : List (List Int)} (h : GwS w W gm gl k vm vl ms ls pm pl) (hk : Kp [] W W') : GwS w W' gm gl k vm vl ms ls pm pl := ⟨h.tw.on hk, h.la.on hk.size⟩
/-- A match that was made so is checked and, if it may be, stands behind. -/
theorem Side.later {W0 W : World} {g : Nat} {k : ByteArray} {a ad : Option Addr} {n c cap : Nat} {vs : List Value} {ss s : List (List Int)} (h : Side W g k (.slice a n c) vs s) (hn : n = s.length) (hs : StagesAt W0 ad ss) (hk0 : Kp [] W0 W) (ok : MtOk k ss) (oks : MtOk k s) (hm : mayM k ss = true) (hl : lastM ss < lastM s) :
    ∃ e : Int, (∀ W', Kp [] W W' → Calls Try.prog 10 #[.agg #[.string k, .slice a n c]] W' fun r w' => r = .returned (.int .i64 e) ∧ Kp [] W' w') ∧ (e = 0 → ∀ W', Kp [] W W' → Calls Try.prog 12 #[.agg #[.string k, .slice ad ss.length cap], .agg #[.string k, .slice a n c]] W' fun r w' => r = .returned (.tuple #[.int .i64 (-1), .int .i64 0]) ∧ Kp [] W' w') := by
  subst hn
  obtain ⟨a', c', e1, hst⟩ := h.stages
  simp only [Value.slice.injEq, true_and] at e1
  obtain ⟨rfl, rfl⟩ := e1
  have hb : ∀ {A B : World} {ad : Option Addr} {l : List (List Int)}, StagesAt A ad l → Kp [] A B → StagesAt B ad l := fun h hk => h.below (hk.below (Nat.le_refl _) (by simp)) (Nat.le_refl _)
  refine ⟨chkM k s, fun W' hk => (checkMatch_any k a c s W' oks (hb hst hk)).mono ?_, fun he W' hk => (compare_any k ad cap ss k a c s W' ok oks (hb hs (hk0.trans hk (by simp))) (hb hst hk)).mono ?_⟩
  · rintro r w' ⟨rfl, rfl⟩
    exact ⟨rfl, Kp.alloc _ _⟩
  · rintro r w' ⟨rfl, hbl⟩
    have ms : mayM k s = true := by
      cases e : mayM k s with
      | true => rfl
      | false => unfold chkM at he; rw [if_neg (by rw [e]; decide)] at he; cases he
    have e1 : cmpV k ss k s = -1 := by unfold cmpV; rw [if_pos ⟨hm, ms⟩]; exact cM_before k ss k s hl
    have e2 : cmpE k ss k s = 0 := if_pos ⟨hm, ms⟩
    rw [e1, e2]
    exact ⟨rfl, Kp.ofBelow hbl⟩
theorem mtOk_more {k : ByteArray} {ss : List (List Int)} (ok : MtOk k ss) (hm : mayM k ss = true) (B : Int) : MtOk k (moreL B ss) := by
  have h8 := mayM_ne hm
  have hb := mayM_bnd hm
  refine ⟨ok.1, by rw [moreL_len]; omega, fun p hp => ?_⟩
  unfold moreL at hp
  rcases List.mem_or_eq_of_mem_set hp with hp | rfl
  · have := (hb p hp).1; omega
  · rw [List.length_append, List.getD_eq_getElem?_getD, List.getElem?_eq_getElem (show ss.length - 1 < ss.length by omega)]
    have := (hb (ss[ss.length - 1]'(by omega)) (List.getElem_mem _)).1
    simp
    omega
theorem mtOk_later {k : ByteArray} {ss : List (List Int)} (ok : MtOk k ss) (hm : mayM k ss = true) (B : Int) : MtOk k (laterL B ss) := by
  have h8 := mayM_ne hm
  have hb := mayM_bnd hm
  refine ⟨ok.1, by rw [laterL_len]; omega, fun p hp => ?_⟩
  unfold laterL at hp
  obtain ⟨q, hq, rfl⟩ := List.mem_map.1 hp
  have := (hb q hq).1
  unfold laterP
  rw [List.length_map]
  omega
end Go.Proofs.Ytnikkjbjidhhlaa
