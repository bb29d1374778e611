/-
  Plain facts for a fold: rows of things of some cells each, of the call's own; what a loop over an iterator keeps.
  What the three folds share: new cells, what a round keeps, and how a fold returns.
-/
import Derived.Test.YtogklmljllocbabGreatDoorF17
import Derived.Laws.MakeOwn
import Derived.Laws.ResultCell
namespace Go.Proofs.YtogklmljllocbabGreatDoor
open Go.RowKit

theorem flat_at {α : Type} (enc : α → List Value) (sz : Nat) (he : ∀ a, (enc a).length = sz) : ∀ (l : List α) (j i : Nat) (h : j < l.length), i < sz → (l.flatMap enc)[j * sz + i]? = (enc l[j])[i]?
  | a :: r, 0, i, _, hi => by
    rw [List.flatMap_cons, Nat.zero_mul, Nat.zero_add, List.getElem?_append_left (by rw [he]; exact hi)]
    rfl
  | a :: r, j + 1, i, h, hi => by
    rw [List.flatMap_cons, List.getElem?_append_right (by rw [he, Nat.add_mul]; omega), he, show (j + 1) * sz + i - sz = j * sz + i by rw [Nat.add_mul]; omega, flat_at enc sz he r j i (by simpa using h) hi]
    rfl
theorem flat_len {α : Type} (enc : α → List Value) (sz : Nat) (he : ∀ a, (enc a).length = sz) (l : List α) : (l.flatMap enc).length = l.length * sz := by
  induction l with
  | nil => simp
  | cons a r ih => rw [List.flatMap_cons, List.length_append, ih, he, List.length_cons, Nat.add_mul]; omega
theorem flat_take {α : Type} (enc : α → List Value) (sz : Nat) (he : ∀ a, (enc a).length = sz) (l : List α) (m : Nat) : (l.flatMap enc).take (m * sz) = (l.take m).flatMap enc := by
  induction l generalizing m with
  | nil => simp
  | cons a r ih =>
    cases m with
    | zero => simp
    | succ m =>
      rw [List.flatMap_cons, List.take_succ_cons, List.flatMap_cons, ← ih m, List.take_append, he, List.take_of_length_le (by rw [he, Nat.add_mul]; omega), show (m + 1) * sz - sz = m * sz by rw [Nat.add_mul]; omega]
/-- The beginning of a row of the call's own. -/
theorem own_take {w : World} {B e sz g n cap : Nat} {xs : List Value} (h : w.ownsRow B e sz (.slice (some ⟨g, 0, none⟩) n cap) n xs) (m : Nat) (hm : m ≤ n) : w.ownsRow B e sz (.slice (some ⟨g, 0, none⟩) m cap) m (xs.take (m * sz)) := by
  obtain ⟨h1, ⟨h2, _⟩ | ⟨g', cap', cur, h2, h3, h4, h5, h6, h7, h8⟩⟩ := h
  · cases h2
  · cases h2
    have hmn : m * sz ≤ n * sz := Nat.mul_le_mul_right _ hm
    refine ⟨by rw [List.length_take, h1]; omega, Or.inr ⟨g, cap, cur, rfl, h3, h4, by omega, h6, h7, ?_⟩⟩
    rw [← h8, List.take_take, Nat.min_eq_left hmn]
theorem own_cell {α : Type} {enc : α → List Value} {sz : Nat} (he : ∀ a, (enc a).length = sz) {w : World} {B e g cap : Nat} {l : List α} (h : w.ownsRow B e sz (.slice (some ⟨g, 0, none⟩) l.length cap) l.length (l.flatMap enc)) (j i : Nat) (hj : j < l.length) (hi : i < sz) : w.cell? ⟨g, j * sz + i, none⟩ = (enc l[j])[i]? := by
  have hlt : j * sz + i < l.length * sz := by
    have : (j + 1) * sz ≤ l.length * sz := Nat.mul_le_mul_right _ hj
    rw [Nat.add_mul] at this
    omega
  rw [World.ownsRow.cellAt h (j * sz + i) hlt]
  exact flat_at enc sz he l j i hj hi
theorem cbox_own {g : Nat} {cs : Array Value} {t : TypeId} {W W' : World} {row : Option Nat} (h : CBox g cs t W) (hg : W.grownBy W' row) (hr : ∀ r, row = some r → ∃ o : Obj, W.heap[r]? = some o ∧ o.isCells = false) : CBox g cs t W' := by
  unfold CBox at *
  rw [hg.block g (Array.getElem?_eq_some_iff.1 h).1 (fun e => by
    obtain ⟨o, ho, hc⟩ := hr g e.symm
    rw [h] at ho
    cases ho
    cases hc)]
  exact h
theorem row_own {W W' : World} {row : Option Nat} {B e sz n : Nat} {v : Value} {xs : List Value} (h : W.ownsRow B e sz v n xs) (hg : W.grownBy W' row) (hr : ∀ r, row = some r → ∃ o : Obj, W.heap[r]? = some o ∧ o.isCells = false) : W'.ownsRow B e sz v n xs := by
  obtain ⟨h1, h2 | ⟨g, cap, cur, h2, h3, h4, h5, h6, h7, h8⟩⟩ := h
  · exact ⟨h1, Or.inl h2⟩
  · exact ⟨h1, Or.inr ⟨g, cap, cur, h2, h3, cbox_own (show CBox g cur e W from h4) hg hr, h5, h6, h7, h8⟩⟩
/-- A row of the call's own stays, while other blocks change. -/
theorem row_kp {W W' : World} {F : List Nat} {B e sz n : Nat} {v : Value} {xs : List Value} (h : W.ownsRow B e sz v n xs) (hk : Kp F W W') (hF : ∀ g, v.ownBlock = some g → g ∉ F) : W'.ownsRow B e sz v n xs := by
  obtain ⟨h1, h2 | ⟨g, cap, cur, h2, h3, h4, h5, h6, h7, h8⟩⟩ := h
  · exact ⟨h1, Or.inl h2⟩
  · refine ⟨h1, Or.inr ⟨g, cap, cur, h2, h3, CBox.kp (show CBox g cur e W from h4) hk (hF g (by rw [h2]; rfl)), h5, h6, h7, h8⟩⟩
/-- A row's block is none that holds cells of another type. -/
theorem row_ne {W : World} {B e sz n g : Nat} {v : Value} {xs : List Value} {cs : Array Value} {t : TypeId} (h : W.ownsRow B e sz v n xs) (hg : CBox g cs t W) (ht : t ≠ e) : v.ownBlock ≠ some g := fun he => by
  obtain ⟨_, ⟨rfl, _⟩ | ⟨g', cap, cur, rfl, _, h4, _⟩⟩ := h
  · cases he
  · simp [Value.ownBlock] at he
    subst he
    unfold CBox at hg
    rw [h4] at hg
    cases hg
    exact ht rfl
theorem row_low {W : World} {B e sz n g : Nat} {v : Value} {xs : List Value} (h : W.ownsRow B e sz v n xs) (hg : g < B) : v.ownBlock ≠ some g := fun he => by
  have := (h.lt g he).1
  omega
theorem KeepsOthers.ofKp {W W' : World} (h : Kp [] W W') : KeepsOthers W W' := ⟨h.size, fun k _ hk _ => (h.block k (Array.getElem?_eq_some_iff.1 hk).1 (by simp)).trans hk⟩
theorem KeepsOthers.ofBelow {W W' : World} (h : Below W.heap.size W W') : KeepsOthers W W' := ⟨h.size, fun k _ hk _ => (h.block k (Array.getElem?_eq_some_iff.1 hk).1).trans hk⟩
theorem stk_len {α : Type} {ev : Pt → List α → α} {x : List Pt} {l : List α} (h : stk ev x = some l) : l.length ≤ x.length := by
  obtain ⟨ts, _, rfl, rfl⟩ := stk_some ev x l h
  rw [List.length_map]
  clear h
  induction ts with
  | nil => simp
  | cons t r ih => rw [List.flatMap_cons, List.length_append, List.length_cons]; have := t.flat_pos; have := ih (by simp_all); omega
theorem stk_suffix {α : Type} (ev : Pt → List α → α) (a b : List Pt) (h : stk ev b = none) : stk ev (a ++ b) = none := by
  induction a with
  | nil => exact h
  | cons p r ih => rw [List.cons_append, stk, ih]
end Go.Proofs.YtogklmljllocbabGreatDoor
namespace Go.Proofs.YtogklmljllocbabGreatDoor
open Go.RowKit Go.Shelf

theorem KeepsOthers.ofCells {W W' : World} {F : List Nat} (h : Kp F W W') (hF : ∀ y ∈ F, ∃ cs t, CBox y cs t W) : KeepsOthers W W' := ⟨h.size, fun k o hk ho => by
  refine (h.block k (Array.getElem?_eq_some_iff.1 hk).1 (fun hm => ?_)).trans hk
  obtain ⟨cs, t, hc⟩ := hF k hm
  unfold CBox at hc
  rw [hk] at hc
  cases hc
  cases ho⟩
theorem new_cells (W : World) (news : List Value) (t : TypeId) : ∀ (j : Nat) (u : Value), news[j]? = some u → (W.alloc (.cells news.toArray t)).cell? ((⟨W.heap.size, 0, none⟩ : Addr).add j) = some u := fun j u hj => by
  have := (CBox.new W news.toArray t).cell (i := j) (v := u) (by simpa using hj)
  rw [show (⟨W.heap.size, 0, none⟩ : Addr).add j = ⟨W.heap.size, j, none⟩ by cases j <;> simp [Addr.add]]
  exact this
theorem flat_take_le (ts : List Ex) (k : Nat) : ((ts.take k).flatMap Ex.flat).length ≤ (ts.flatMap Ex.flat).length := by
  conv => rhs; rw [← List.take_append_drop k ts, List.flatMap_append, List.length_append]
  omega
theorem tab_stF (w : World) : (storeCells ⟨w.heap.size, 0, none⟩ opsV.toList 0).run Tryz.prog (w.alloc (.cells Tryz.zeroCells152 152)) = .ok () (w.alloc (.cells opsV 152)) :=
  run_storeCells_new w _ _ opsV info_tab (by kernel_rfl) opsV_one
theorem results_row_cell {P : Program} {fn : Func} {p u : Tmp} {ty ty2 : TypeId} (h : fn.results = #[.cell p ty, .cell u ty2]) (tmps : Array Value) (w : World) (g : Nat) (t : TypeId) (cs : Array Value) (fr : Nat × Nat) (fs : Array Field)
    (hp : tmps.getD p undef = .pointer (some ⟨g, 0, none⟩)) (hg : w.heap[g]? = some (.cells cs t fr))
    (hu : P.underlying ty = some (.struct fs)) (hi : (P.info? ty).map (·.size) = some cs.size)
    (g2 : Nat) (v : Value) (hp2 : tmps.getD u undef = .pointer (some ⟨g2, 0, none⟩)) (h2 : (loadVar ty2 ⟨g2, 0, none⟩).run P w = .ok v w) :
    (results fn tmps).run P w = .ok (.tuple #[.agg cs, v]) w := by
  have hp' : tmps[p]?.getD undef = .pointer (some ⟨g, 0, none⟩) := by simpa using hp
  have hp2' : tmps[u]?.getD undef = .pointer (some ⟨g2, 0, none⟩) := by simpa using hp2
  simp [results, h, hp', hp2', asAddr, run_loadVar_row w g t ty cs fr (.struct fs) hg hu rfl hi, h2, Sem.run_bind, Result.andThen]
theorem load_bool {W : World} {g : Nat} {b : Bool} (h : CBox g #[.bool b] 4 W) : (loadVar 4 ⟨g, 0, none⟩).run Tryz.prog W = .ok (.bool b) W := by
  have c := h.cell (i := 0) (v := .bool b) rfl
  go_simp
theorem CBox.putObj {g D : Nat} {cs : Array Value} {t : TypeId} {W : World} {o o' : Obj} (h : CBox g cs t W) (hD : W.heap[D]? = some o) (ho : o.isCells = false) : CBox g cs t (W.putObj D o') := by
  unfold CBox at *
  rw [World.putObj_heap_other (fun e => by subst e; rw [h] at hD; cases hD; cases ho)]
  exact h
/-- How a fold returns. -/
theorem fo_ret {n : Nat} {fn : Func} {R : Ending → World → Prop} {tmps : Array Value} {W : World} {D b1 b2 n₀ : Nat} {ty : TypeId} {cs : Array Value} {b : Bool} {fs : Array Field} {w : World} (h : fn.results = #[.cell 4 ty, .cell 5 4])
    (h4 : tmps.getD 4 undef = .pointer (some ⟨b1, 0, none⟩)) (h5 : tmps.getD 5 undef = .pointer (some ⟨b2, 0, none⟩)) (hu : Tryz.prog.underlying ty = some (.struct fs)) (hi : (Tryz.prog.info? ty).map (·.size) = some cs.size)
    (hK : W.heap[D]? = some (.deferred (some []))) (c1 : CBox b1 cs ty W) (c2 : CBox b2 #[.bool b] 4 W) (hb : Below n₀ w W) (hD : n₀ ≤ D) 
    (hR : ∀ W', Below n₀ w W' → R (.returned (.tuple #[.agg cs, .bool b])) W') :
    bodyPostM Fence.wide n Tryz.prog fn R .ret { tmps := tmps, defers := [{ target := .collected D, args := #[] }] } W := by
  refine ⟨by simp, .inl ⟨_, _, rfl, run_takeDeferred hK, ?_⟩⟩
  have k1 := c1.putObj (o' := .deferred none) hK rfl
  have k2 := c2.putObj (o' := .deferred none) hK rfl
  refine ⟨_, results_row_cell h tmps _ b1 ty cs (0, 0) fs h4 k1 hu hi b2 (.bool b) h5 (load_bool k2), hR _ ?_⟩
  exact hb.trans ⟨rfl, rfl, rfl, by simp, fun k hk => World.putObj_heap_other (by omega)⟩
end Go.Proofs.YtogklmljllocbabGreatDoor
