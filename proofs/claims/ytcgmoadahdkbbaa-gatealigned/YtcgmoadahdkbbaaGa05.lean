/-
  How a gate lies; what a step of one channel leaves.
  Gates: a channel's line: is it blocked, is it open; the line of a number.
-/
import Derived.Test.YtcgmoadahdkbbaaGa04
import Derived.Deep.DeepCutAuto
namespace Go.Proofs.Ytcgmoadahdkbbaa
open Go.RowKit Gt Cr

/-- The objects of gates. -/
def gtO : Obj → Bool
  | .cells _ t _ => t == 61 || t == 71 || t == 81 || t == 102
  | _ => false
/-- A gate lies there: its box b, its lines L, of each line the store and the row of items. -/
structure GtV (w : World) (b L : Nat) (cs : Array Value) (rs : Nat → Nat) (vs : Nat → Value) (G : Gt) : Prop where
  box : CBox b #[.slice (some ⟨L, 0, none⟩) G.n G.n, .int .i64 (G.turn : Int)] 61 w
  lb : CBox L cs 71 w
  sz : cs.size = G.n * 3
  c0 : ∀ k, k < G.n → cs[k * 3]? = some (.pointer (some ⟨rs k, 0, none⟩))
  c1 : ∀ k, k < G.n → cs[k * 3 + 1]? = some (vs k)
  c2 : ∀ k, k < G.n → cs[k * 3 + 2]? = some (.int .i64 ((G.ch k).next : Int))
  rm : ∀ k, k < G.n → CrAt w (rs k) (G.ch k).sto
  it : ∀ k, k < G.n → ItRow w (vs k) (G.ch k).q
  dr : ∀ j k, j < G.n → k < G.n → j ≠ k → rs j ≠ rs k
  dv : ∀ j k, j < G.n → k < G.n → j ≠ k → ∀ g, (vs j).ownBlock = some g → (vs k).ownBlock ≠ some g
  ok : G.Ok
/-- Nothing of it lies below B. -/
structure GtL (B b L : Nat) (rs : Nat → Nat) (vs : Nat → Value) (n : Nat) : Prop where
  b : B ≤ b
  l : B ≤ L
  r : ∀ k, k < n → B ≤ rs k
  v : ∀ k, k < n → ∀ g, (vs k).ownBlock = some g → B ≤ g
def GtAt (B : Nat) (w : World) (b L : Nat) (G : Gt) : Prop := ∃ cs rs vs, GtV w b L cs rs vs G ∧ GtL B b L rs vs G.n
theorem CrAt.ty {w : World} {b : Nat} {s : Sto} (h : CrAt w b s) : ∃ cur, w.heap[b]? = some (.cells cur 102 (0, 0)) := by
  obtain ⟨cs, f, h⟩ := h
  exact ⟨cs, h.box⟩
theorem ty_ne {w : World} {a b : Nat} {x y : Array Value} {s t : TypeId} (h1 : w.heap[a]? = some (Obj.cells x s (0, 0))) (h2 : w.heap[b]? = some (Obj.cells y t (0, 0))) (hst : s ≠ t) : a ≠ b := by
  rintro rfl
  rw [h1] at h2
  injection h2 with e
  injection e with _ e
  exact hst e
section
variable {w : World} {b L : Nat} {cs : Array Value} {rs : Nat → Nat} {vs : Nat → Value} {G : Gt}
theorem GtV.bL (h : GtV w b L cs rs vs G) : b ≠ L := ty_ne h.box h.lb (by decide)
theorem GtV.br (h : GtV w b L cs rs vs G) {k : Nat} (hk : k < G.n) : b ≠ rs k := by
  obtain ⟨_, hc⟩ := (h.rm k hk).ty
  exact ty_ne h.box hc (by decide)
theorem GtV.Lr (h : GtV w b L cs rs vs G) {k : Nat} (hk : k < G.n) : L ≠ rs k := by
  obtain ⟨_, hc⟩ := (h.rm k hk).ty
  exact ty_ne h.lb hc (by decide)
theorem GtV.bv (h : GtV w b L cs rs vs G) {k g : Nat} (hk : k < G.n) (hg : (vs k).ownBlock = some g) : b ≠ g := by
  obtain ⟨_, hc⟩ := (h.it k hk).block hg
  exact ty_ne h.box hc (by decide)
theorem GtV.Lv (h : GtV w b L cs rs vs G) {k g : Nat} (hk : k < G.n) (hg : (vs k).ownBlock = some g) : L ≠ g := by
  obtain ⟨_, hc⟩ := (h.it k hk).block hg
  exact ty_ne h.lb hc (by decide)
theorem GtV.rv (h : GtV w b L cs rs vs G) {j k g : Nat} (hj : j < G.n) (hk : k < G.n) (hg : (vs k).ownBlock = some g) : rs j ≠ g := by
  obtain ⟨_, hc⟩ := (h.it k hk).block hg
  obtain ⟨_, hd⟩ := (h.rm j hj).ty
  exact ty_ne hd hc (by decide)
theorem GtV.kp {w' : World} (h : GtV w b L cs rs vs G) (hk : Kp [] w w') : GtV w' b L cs rs vs G :=
  { h with
    box := h.box.kp hk (by simp)
    lb := h.lb.kp hk (by simp)
    rm := fun k hl => (h.rm k hl).kp hk (by simp)
    it := fun k hl => (h.it k hl).kp hk (fun _ _ => by simp) }
end
theorem GtAt.kp {B b L : Nat} {w w' : World} {G : Gt} (h : GtAt B w b L G) (hk : Kp [] w w') : GtAt B w' b L G := by
  obtain ⟨cs, rs, vs, h1, h2⟩ := h
  exact ⟨cs, rs, vs, h1.kp hk, h2⟩
theorem GtAt.ko {P : Obj → Bool} {B B' : Nat} {w w' : World} {b L : Nat} {G : Gt} (h : GtAt B w b L G) (hk : Ko P B' w w') (hP : B' = w.heap.size ∨ ∀ o, gtO o = true → P o = false) : GtAt B w' b L G := by
  obtain ⟨cs, rs, vs, h1, h2⟩ := h
  have keep : ∀ (k : Nat) (cur : Array Value) (t : TypeId), (gtO (Obj.cells cur t (0, 0)) = true) → w.heap[k]? = some (Obj.cells cur t (0, 0)) → w'.heap[k]? = some (Obj.cells cur t (0, 0)) := fun k cur t ht hc => by
    refine hk.block k _ hc ?_
    rcases hP with rfl | hP
    · exact Or.inl (Array.getElem?_eq_some_iff.1 hc).1
    · exact Or.inr (hP _ ht)
  refine ⟨cs, rs, vs, { h1 with
    box := keep _ _ _ rfl h1.box
    lb := keep _ _ _ rfl h1.lb
    rm := fun k hl => by
      obtain ⟨c, f, hc⟩ := h1.rm k hl
      exact ⟨c, f, { hc with box := keep _ _ _ rfl hc.box }⟩
    it := fun k hl => by
      obtain ⟨g1, g2 | ⟨g, cp, cur, e, hb, hh, r⟩⟩ := h1.it k hl
      · exact ⟨g1, Or.inl g2⟩
      · exact ⟨g1, Or.inr ⟨g, cp, cur, e, hb, keep _ _ _ rfl hh, r⟩⟩ }, h2⟩
theorem GtAt.ok {B b L : Nat} {w : World} {G : Gt} (h : GtAt B w b L G) : G.Ok := by
  obtain ⟨_, _, _, h1, _⟩ := h
  exact h1.ok
theorem idx3 {j k a c : Nat} (ha : a < 3) (hc : c < 3) (h : j * 3 + a = k * 3 + c) : j = k ∧ a = c := by omega
/-- What of the stores and rows a step of one channel touches. -/
theorem gt_F {w : World} {b L : Nat} {cs : Array Value} {rs : Nat → Nat} {vs : Nat → Value} {G : Gt} (h : GtV w b L cs rs vs G) {k : Nat} (hk : k < G.n) :
    (b ∉ rs k :: (vs k).ownBlock.toList) ∧ (L ∉ rs k :: (vs k).ownBlock.toList) ∧ (∀ j, j < G.n → j ≠ k → rs j ∉ rs k :: (vs k).ownBlock.toList) ∧ (∀ j, j < G.n → j ≠ k → ∀ g, (vs j).ownBlock = some g → g ∉ rs k :: (vs k).ownBlock.toList) := by
  refine ⟨?_, ?_, ?_, ?_⟩
  · intro hm
    rcases List.mem_cons.1 hm with e | hm
    · exact h.br hk e
    · exact h.bv hk (by simpa using hm) rfl
  · intro hm
    rcases List.mem_cons.1 hm with e | hm
    · exact h.Lr hk e
    · exact h.Lv hk (by simpa using hm) rfl
  · intro j hj hne hm
    rcases List.mem_cons.1 hm with e | hm
    · exact h.dr j k hj hk hne e
    · exact h.rv hj hk (by simpa using hm) rfl
  · intro j hj hne g hg hm
    rcases List.mem_cons.1 hm with e | hm
    · exact h.rv hk hj hg e.symm
    · exact h.dv j k hj hk hne g hg (by simpa using hm)
/-- A step of one channel, its row's value written at its line. -/
theorem gt_stepV {B b L : Nat} {w w1 : World} {cs : Array Value} {rs : Nat → Nat} {vs : Nat → Value} {G : Gt} (h : GtV w b L cs rs vs G) (hl : GtL B b L rs vs G.n) {k : Nat} (hk : k < G.n) {c : Ch} {v : Value}
    (kp : Kp (rs k :: (vs k).ownBlock.toList) w w1) (hr : CrAt w1 (rs k) c.sto) (hi : ItRow w1 v c.q) (hv : ∀ g, v.ownBlock = some g → (vs k).ownBlock = some g ∨ w.heap.size ≤ g) (hn : c.next = (G.ch k).next) (ok : c.sto.Ok) :
    GtV (w1.setCell ⟨L, k * 3 + 1, none⟩ v) b L (cs.setIfInBounds (k * 3 + 1) v) rs (fun j => if j = k then v else vs j) (G.upd k c) ∧ GtL B b L rs (fun j => if j = k then v else vs j) G.n ∧ Ko gtO B w (w1.setCell ⟨L, k * 3 + 1, none⟩ v) := by
  obtain ⟨f1, f2, f3, f4⟩ := gt_F h hk
  have hsz : k * 3 + 1 < cs.size := by rw [h.sz]; omega
  have ks := Kp.set w1 L (k * 3 + 1) v
  have hLs : L < w.heap.size := (Array.getElem?_eq_some_iff.1 h.lb).1
  have hwz := kp.size
  have hvL : ∀ g, v.ownBlock = some g → g ≠ L := fun g hg => by
    rcases hv g hg with e | e
    · exact fun e2 => h.Lv hk e e2.symm
    · omega
  refine ⟨⟨?_, ?_, ?_, ?_, ?_, ?_, ?_, ?_, h.dr, ?_, h.ok.upd k ok⟩, ⟨hl.b, hl.l, hl.r, ?_⟩, ?_⟩
  · exact (h.box.kp kp f1).kp ks (by simpa using h.bL)
  · exact (h.lb.kp kp f2).set _ _
  · rw [Array.size_setIfInBounds]; exact h.sz
  · intro j hj
    rw [Array.getElem?_setIfInBounds_ne (by omega)]
    exact h.c0 j hj
  · intro j hj
    by_cases e : j = k
    · subst e
      rw [Array.getElem?_setIfInBounds_self_of_lt hsz, if_pos rfl]
    · rw [Array.getElem?_setIfInBounds_ne (by omega), if_neg e]
      exact h.c1 j hj
  · intro j hj
    rw [Array.getElem?_setIfInBounds_ne (by omega), h.c2 j hj]
    by_cases e : j = k
    · subst e; rw [Gt.upd_same, hn]
    · rw [Gt.upd_ne G c e]
  · intro j hj
    by_cases e : j = k
    · subst e
      rw [Gt.upd_same]
      exact hr.kp ks (by simpa using fun e => h.Lr hk e.symm)
    · rw [Gt.upd_ne G c e]
      exact ((h.rm j hj).kp kp (f3 j hj e)).kp ks (by simpa using fun e => h.Lr hj e.symm)
  · intro j hj
    by_cases e : j = k
    · subst e
      rw [Gt.upd_same, if_pos rfl]
      exact hi.kp ks (fun g hg => by simpa using hvL g hg)
    · rw [Gt.upd_ne G c e, if_neg e]
      exact ((h.it j hj).kp kp (f4 j hj e)).kp ks (fun g hg => by simpa using fun e2 : g = L => h.Lv hj hg e2.symm)
  · intro i j hi2 hj2 hne g hg
    (try dsimp only at hg ⊢)
    have lt : ∀ x, x < G.n → ∀ g, (vs x).ownBlock = some g → g < w.heap.size := fun x hx g hg => (h.it x hx).lt hg
    by_cases e : i = k
    · subst e
      rw [if_pos rfl] at hg
      rw [if_neg (fun e => hne e.symm)]
      rcases hv g hg with e | e
      · exact h.dv i j hi2 hj2 hne g e
      · intro e2
        have := lt j hj2 g e2
        omega
    · rw [if_neg e] at hg
      by_cases e2 : j = k
      · subst e2
        rw [if_pos rfl]
        intro e3
        rcases hv g e3 with e4 | e4
        · exact h.dv i j hi2 hj2 hne g hg e4
        · have := lt i hi2 g hg
          omega
      · rw [if_neg e2]
        exact h.dv i j hi2 hj2 hne g hg
  · intro j hj g hg
    by_cases e : j = k
    · subst e
      rw [if_pos rfl] at hg
      rcases hv g hg with e | e
      · exact hl.v j hj g e
      · have := (Array.getElem?_eq_some_iff.1 h.box).1
        have := hl.b
        omega
    · rw [if_neg e] at hg
      exact hl.v j hj g hg
  · refine (Ko.of kp (fun x hm hlt => ?_)).trans (Ko.of ks (fun x hm hlt => ?_))
    · rcases List.mem_cons.1 hm with rfl | hm
      · obtain ⟨cur, hc⟩ := (h.rm k hk).ty
        exact ⟨hl.r k hk, _, hc, rfl⟩
      · have hk1 : (vs k).ownBlock = some x := by simpa using hm
        obtain ⟨cur, hc⟩ := (h.it k hk).block hk1
        exact ⟨hl.v k hk x hk1, _, hc, rfl⟩
    · simp only [List.mem_singleton] at hm
      subst hm
      exact ⟨hl.l, _, h.lb.kp kp f2, rfl⟩
theorem gt_step {B b L : Nat} {w w1 : World} {cs : Array Value} {rs : Nat → Nat} {vs : Nat → Value} {G : Gt} (h : GtV w b L cs rs vs G) (hl : GtL B b L rs vs G.n) {k : Nat} (hk : k < G.n) {c : Ch} {v : Value}
    (kp : Kp (rs k :: (vs k).ownBlock.toList) w w1) (hr : CrAt w1 (rs k) c.sto) (hi : ItRow w1 v c.q) (hv : ∀ g, v.ownBlock = some g → (vs k).ownBlock = some g ∨ w.heap.size ≤ g) (hn : c.next = (G.ch k).next) (ok : c.sto.Ok) :
    GtAt B (w1.setCell ⟨L, k * 3 + 1, none⟩ v) b L (G.upd k c) ∧ Ko gtO B w (w1.setCell ⟨L, k * 3 + 1, none⟩ v) :=
  have ⟨a, b, c⟩ := gt_stepV h hl hk kp hr hi hv hn ok
  ⟨⟨_, _, _, a, b⟩, c⟩
theorem GtV.kpF {F : List Nat} {w w' : World} {b L : Nat} {cs : Array Value} {rs : Nat → Nat} {vs : Nat → Value} {G : Gt} (h : GtV w b L cs rs vs G) (hk : Kp F w w') (hb : b ∉ F) (hL : L ∉ F) (hr : ∀ k, k < G.n → rs k ∉ F) (hv : ∀ k, k < G.n → ∀ g, (vs k).ownBlock = some g → g ∉ F) : GtV w' b L cs rs vs G :=
  { h with
    box := h.box.kp hk hb
    lb := h.lb.kp hk hL
    rm := fun k hl => (h.rm k hl).kp hk (hr k hl)
    it := fun k hl => (h.it k hl).kp hk (hv k hl) }
/-- A step of one channel whose row stays. -/
theorem gt_stay {B b L : Nat} {w w1 : World} {cs : Array Value} {rs : Nat → Nat} {vs : Nat → Value} {G : Gt} (h : GtV w b L cs rs vs G) (hl : GtL B b L rs vs G.n) {k : Nat} (hk : k < G.n) {c : Ch}
    (kp : Kp [rs k] w w1) (hr : CrAt w1 (rs k) c.sto) (hq : c.q = (G.ch k).q) (hn : c.next = (G.ch k).next) (ok : c.sto.Ok) :
    GtAt B w1 b L (G.upd k c) ∧ Ko gtO B w w1 := by
  obtain ⟨f1, f2, f3, f4⟩ := gt_F h hk
  have hm : ∀ x, x ∉ rs k :: (vs k).ownBlock.toList → x ∉ [rs k] := fun x hx hm => hx (List.mem_cons.2 (Or.inl (by simpa using hm)))
  refine ⟨⟨cs, rs, vs, ⟨h.box.kp kp (hm _ f1), h.lb.kp kp (hm _ f2), h.sz, h.c0, h.c1, ?_, ?_, ?_, h.dr, h.dv, h.ok.upd k ok⟩, hl⟩, Ko.of kp (fun x hm hlt => ?_)⟩
  · intro j hj
    rw [h.c2 j hj]
    by_cases e : j = k
    · subst e; rw [Gt.upd_same, hn]
    · rw [Gt.upd_ne G c e]
  · intro j hj
    by_cases e : j = k
    · subst e
      rw [Gt.upd_same]
      exact hr
    · rw [Gt.upd_ne G c e]
      exact (h.rm j hj).kp kp (hm _ (f3 j hj e))
  · intro j hj
    have : ItRow w1 (vs j) (G.ch j).q := (h.it j hj).kp kp (fun g hg => by simpa using fun e : g = rs k => h.rv hk hj hg e.symm)
    by_cases e : j = k
    · subst e
      rw [Gt.upd_same, hq]
      exact this
    · rw [Gt.upd_ne G c e]
      exact this
  · simp only [List.mem_singleton] at hm
    subst hm
    obtain ⟨cur, hc⟩ := (h.rm k hk).ty
    exact ⟨hl.r k hk, _, hc, rfl⟩
/-- A channel's next barrier's number. -/
theorem gt_next {B b L : Nat} {w : World} {G : Gt} (h : GtAt B w b L G) {k : Nat} (hk : k < G.n) (m : Nat) :
    GtAt B (w.setCell ⟨L, k * 3 + 2, none⟩ (.int .i64 (m : Int))) b L (G.upd k ⟨(G.ch k).cap, (G.ch k).owed, (G.ch k).q, m⟩) ∧ Ko gtO B w (w.setCell ⟨L, k * 3 + 2, none⟩ (.int .i64 (m : Int))) := by
  obtain ⟨cs, rs, vs, h, hl⟩ := h
  have ks := Kp.set w L (k * 3 + 2) (.int .i64 (m : Int))
  have hsz : k * 3 + 2 < cs.size := by rw [h.sz]; omega
  refine ⟨⟨cs.setIfInBounds (k * 3 + 2) (.int .i64 (m : Int)), rs, vs, ⟨h.box.kp ks (by simpa using h.bL), h.lb.set _ _, by rw [Array.size_setIfInBounds]; exact h.sz, ?_, ?_, ?_, ?_, ?_, h.dr, h.dv, h.ok.upd k (h.ok.ch k hk)⟩, hl⟩, Ko.of ks (fun x hm hlt => ?_)⟩
  · intro j hj
    rw [Array.getElem?_setIfInBounds_ne (by omega)]
    exact h.c0 j hj
  · intro j hj
    rw [Array.getElem?_setIfInBounds_ne (by omega)]
    exact h.c1 j hj
  · intro j hj
    by_cases e : j = k
    · subst e
      rw [Array.getElem?_setIfInBounds_self_of_lt hsz, Gt.upd_same]
    · rw [Array.getElem?_setIfInBounds_ne (by omega), Gt.upd_ne G _ e]
      exact h.c2 j hj
  · intro j hj
    have : CrAt (w.setCell ⟨L, k * 3 + 2, none⟩ (.int .i64 (m : Int))) (rs j) (G.ch j).sto := (h.rm j hj).kp ks (by simpa using fun e => h.Lr hj e.symm)
    by_cases e : j = k
    · subst e; rw [Gt.upd_same]; exact this
    · rw [Gt.upd_ne G _ e]; exact this
  · intro j hj
    have : ItRow (w.setCell ⟨L, k * 3 + 2, none⟩ (.int .i64 (m : Int))) (vs j) (G.ch j).q := (h.it j hj).kp ks (fun g hg => by simpa using fun e2 : g = L => h.Lv hj hg e2.symm)
    by_cases e : j = k
    · subst e; rw [Gt.upd_same]; exact this
    · rw [Gt.upd_ne G _ e]; exact this
  · simp only [List.mem_singleton] at hm
    subst hm
    exact ⟨hl.l, _, h.lb, rfl⟩
/-- Whose turn it is. -/
theorem gt_turn {B b L : Nat} {w : World} {G : Gt} (h : GtAt B w b L G) {t : Nat} (ht : t < G.n) :
    GtAt B (w.setCell ⟨b, 1, none⟩ (.int .i64 (t : Int))) b L (G.tn t) ∧ Ko gtO B w (w.setCell ⟨b, 1, none⟩ (.int .i64 (t : Int))) := by
  obtain ⟨cs, rs, vs, h, hl⟩ := h
  have ks := Kp.set w b 1 (.int .i64 (t : Int))
  refine ⟨⟨cs, rs, vs, ⟨h.box.set 1 (.int .i64 (t : Int)), h.lb.kp ks (by simpa using fun e => h.bL e.symm), h.sz, h.c0, h.c1, h.c2, fun k hk => (h.rm k hk).kp ks (by simpa using fun e => h.br hk e.symm), fun k hk => (h.it k hk).kp ks (fun g hg => by simpa using fun e : g = b => h.bv hk hg e.symm), h.dr, h.dv, h.ok.tn' ht⟩, hl⟩, Ko.of ks (fun x hm hlt => ?_)⟩
  simp only [List.mem_singleton] at hm
  subst hm
  exact ⟨hl.b, _, h.box, rfl⟩
end Go.Proofs.Ytcgmoadahdkbbaa
namespace Go.Proofs.Ytcgmoadahdkbbaa
open Go.RowKit Gt Cr

section
variable {w : World} {b L : Nat} {cs : Array Value} {rs : Nat → Nat} {vs : Nat → Value} {G : Gt}
theorem GtV.cell0 (h : GtV w b L cs rs vs G) {k : Nat} (hk : k < G.n) : w.cell? ⟨L, k * 3, none⟩ = some (.pointer (some ⟨rs k, 0, none⟩)) := h.lb.cell (h.c0 k hk)
theorem GtV.cell1 (h : GtV w b L cs rs vs G) {k : Nat} (hk : k < G.n) : w.cell? ⟨L, k * 3 + 1, none⟩ = some (vs k) := h.lb.cell (h.c1 k hk)
theorem GtV.cell2 (h : GtV w b L cs rs vs G) {k : Nat} (hk : k < G.n) : w.cell? ⟨L, k * 3 + 2, none⟩ = some (.int .i64 ((G.ch k).next : Int)) := h.lb.cell (h.c2 k hk)
theorem GtV.lines (h : GtV w b L cs rs vs G) : w.cell? ⟨b, 0, none⟩ = some (.slice (some ⟨L, 0, none⟩) G.n G.n) ∧ w.cell? ⟨b, 1, none⟩ = some (.int .i64 (G.turn : Int)) := ⟨h.box.cell rfl, h.box.cell rfl⟩
/-- A line's row as its two functions meet it. -/
theorem GtV.first (h : GtV w b L cs rs vs G) {k : Nat} (hk : k < G.n) : (∃ ad cap, w.cell? ⟨L, k * 3 + 1, none⟩ = some (.slice ad 0 cap) ∧ (G.ch k).q.length = 0) ∨
    (∃ g n cap, w.cell? ⟨L, k * 3 + 1, none⟩ = some (.slice (some ⟨g, 0, none⟩) n cap) ∧ 0 < n ∧ n = (G.ch k).q.length ∧ vs k = .slice (some ⟨g, 0, none⟩) n cap ∧ w.cell? ⟨g, 0, none⟩ = some (.string (G.ch k).hd.t) ∧ w.cell? ⟨g, 1, none⟩ = some (.int .i64 ((G.ch k).hd.n : Int))) := by
  have c := h.cell1 hk
  have hi := h.it k hk
  rcases hi.form with ⟨e, eq⟩ | ⟨g, cap, e, h1, h2⟩
  · rw [e] at c
    exact Or.inl ⟨_, _, c, by rw [eq]; rfl⟩
  · by_cases hz : (G.ch k).q.length = 0
    · rw [e, hz] at c
      exact Or.inl ⟨_, _, c, hz⟩
    · have hp : 0 < (G.ch k).q.length := by omega
      rw [e] at hi
      have hc := hi.cell 0 hp
      rw [Ch.hd_get hp] at hc
      rw [e] at c
      exact Or.inr ⟨g, _, cap, c, hp, rfl, e, hc.1, hc.2⟩
end
theorem Ch.blk_zero {c : Ch} (h : c.q.length = 0) : c.blk = false := by rw [Ch.blk_eq, h]; rfl
theorem Ch.opn_zero {c : Ch} (h : c.q.length = 0) : c.opn = false := by rw [Ch.opn_eq, h]; rfl
set_option maxHeartbeats 1000000 in
theorem gBlk_any {w : World} {b L : Nat} {cs : Array Value} {rs : Nat → Nat} {vs : Nat → Value} {G : Gt} (h : GtV w b L cs rs vs G) {k : Nat} (hk : k < G.n) :
    Calls Try.prog 25 #[.pointer (some ⟨L, k * 3, none⟩)] w fun e w' => e = .returned (.bool (G.ch k).blk) ∧ w' = w := by
  rcases h.first hk with ⟨ad, cap, c, h0⟩ | ⟨g, n, cap, c, hn, hq, _, d0, d1⟩
  · rw [Ch.blk_zero h0]
    clear h h0
    generalize k * 3 = o at *
    go_enter Try.func25, Try.ntmps25
    go_wp2
    go_ret
    exact ⟨rfl, rfl⟩
  · have e : (G.ch k).blk = decide (0 < (G.ch k).hd.n) := by
      rw [Ch.blk_eq, ← hq, decide_eq_true hn, Bool.true_and]
    rw [e]
    have hni : (0 : Int) < (n : Int) := by omega
    clear h e hq d0
    generalize (G.ch k).hd.n = m at *
    generalize k * 3 = o at *
    go_enter Try.func25, Try.ntmps25
    go_wp2
    go_ret
    exact ⟨by congr 2, rfl⟩
set_option maxHeartbeats 1000000 in
theorem gOpn_any {w : World} {b L : Nat} {cs : Array Value} {rs : Nat → Nat} {vs : Nat → Value} {G : Gt} (h : GtV w b L cs rs vs G) {k : Nat} (hk : k < G.n) :
    Calls Try.prog 40 #[.pointer (some ⟨L, k * 3, none⟩)] w fun e w' => e = .returned (.bool (G.ch k).opn) ∧ w' = w := by
  rcases h.first hk with ⟨ad, cap, c, h0⟩ | ⟨g, n, cap, c, hn, hq, _, d0, d1⟩
  · rw [Ch.opn_zero h0]
    clear h h0
    generalize k * 3 = o at *
    go_enter Try.func40, Try.ntmps40
    go_wp2
    go_ret
    exact ⟨rfl, rfl⟩
  · have e : (G.ch k).opn = decide ((G.ch k).hd.n = 0) := by
      rw [Ch.opn_eq, ← hq, decide_eq_true hn, Bool.true_and]
    rw [e]
    have hni : (0 : Int) < (n : Int) := by omega
    clear h e hq d0
    generalize (G.ch k).hd.n = m at *
    generalize k * 3 = o at *
    go_enter Try.func40, Try.ntmps40
    go_wp2
    go_ret
    exact ⟨ret_bool (by
      by_cases h0 : m = 0
      · subst h0; rfl
      · rw [decide_eq_false h0]; exact beq_eq_false_iff_ne.2 (by omega)), rfl⟩
/-- Is there such a channel? -/
theorem gLine_any {w : World} {b L : Nat} {cs : Array Value} {rs : Nat → Nat} {vs : Nat → Value} {G : Gt} (h : GtV w b L cs rs vs G) {k : Nat} (hk : k < G.n) :
    Calls Try.prog 30 #[.pointer (some ⟨b, 0, none⟩), .int .i64 (k : Int)] w fun e w' => e = .returned (.tuple #[.pointer (some ⟨L, k * 3, none⟩), .int .i64 0]) ∧ w' = w := by
  have c := h.lines.1
  clear h
  generalize G.n = n at *
  have h0 : ¬ (k : Int) < 0 := by omega
  have h1 : ¬ (k : Int) ≥ (n : Int) := by omega
  go_enter Try.func30, Try.ntmps30
  go_wp2
  go_ret2
  exact ⟨rfl, rfl⟩
theorem gLine_not {w : World} {b L : Nat} {cs : Array Value} {rs : Nat → Nat} {vs : Nat → Value} {G : Gt} (h : GtV w b L cs rs vs G) {c : Int} (hc : ¬ G.has c) :
    Calls Try.prog 30 #[.pointer (some ⟨b, 0, none⟩), .int .i64 c] w fun e w' => e = .returned (.tuple #[.pointer none, .int .i64 210]) ∧ w' = w := by
  have c0 := h.lines.1
  unfold Gt.has at hc
  clear h
  generalize G.n = n at *
  by_cases h0 : c < 0
  · clear hc
    go_enter Try.func30, Try.ntmps30
    go_wp2
    go_ret2
    exact ⟨rfl, rfl⟩
  · have h1 : c ≥ (n : Int) := by omega
    clear hc
    go_enter Try.func30, Try.ntmps30
    go_wp2
    go_ret2
    exact ⟨rfl, rfl⟩
end Go.Proofs.Ytcgmoadahdkbbaa
