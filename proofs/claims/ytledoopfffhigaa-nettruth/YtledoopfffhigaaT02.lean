/-
  A net: rows of packets; how a net lies; its leaves: has, isFull, find, Way.
  A net: has, isFull, a way's has, find, Way; counts raised and told; New.
-/
import Derived.Test.YtledoopfffhigaaChecked
import Derived.Test.YtledoopfffhigaaT01
import Derived.Tactics
import Derived.Tactics2
import Derived.Laws.Pointers
import Derived.Deep.QuietTactic
import Derived.BigQuiet
import Derived.Laws.LoneSync
import Derived.Deep.RegionHeld3
namespace Go.Proofs.Ytledoopfffhigaa
open Go.RowKit Nt

theorem info_pk : (Try.prog.info? 72).map (fun i => (i.zero, i.size, i.bytes)) = some (some (.agg #[.int .i64 0, .string ⟨#[]⟩]), 2, 24) := by kernel_rfl
/-- A packet as cells. -/
def pkA (p : Pk) : Array Value := #[.int .i64 p.fr, .string p.b]
def pkC (l : List Pk) : List Value := l.flatMap fun p => (pkA p).toList
theorem pkC_append (a b : List Pk) : pkC (a ++ b) = pkC a ++ pkC b := by unfold pkC; exact List.flatMap_append ..
theorem pkC_one (p : Pk) : pkC [p] = (pkA p).toList := by unfold pkC; simp
theorem pkC_len (l : List Pk) : (pkC l).length = l.length * 2 := by
  induction l with
  | nil => rfl
  | cons e r ih =>
    have : pkC (e :: r) = (pkA e).toList ++ pkC r := rfl
    rw [this, List.length_append, ih, List.length_cons]
    show 2 + r.length * 2 = _
    omega
theorem pkC_cell (l : List Pk) (u : Value) (h : u ∈ pkC l) : u.oneCell' = true := by
  unfold pkC at h
  obtain ⟨p, _, h⟩ := List.mem_flatMap.1 h
  simp [pkA] at h
  rcases h with rfl | rfl <;> rfl
theorem pkC_at (l : List Pk) (i : Nat) (h : i < l.length) : (pkC l)[i * 2]? = some (.int .i64 (l[i]).fr) ∧ (pkC l)[i * 2 + 1]? = some (.string (l[i]).b) := by
  induction l generalizing i with
  | nil => cases h
  | cons e r ih =>
    have hc : pkC (e :: r) = .int .i64 e.fr :: .string e.b :: pkC r := rfl
    rw [hc]
    cases i with
    | zero => exact ⟨rfl, rfl⟩
    | succ i =>
      have := ih i (by simpa using h)
      rw [show (i + 1) * 2 = i * 2 + 2 by omega]
      simpa using this
theorem pkC_set (l : List Pk) (i : Nat) (p : Pk) (h : i < l.length) : pkC (l.set i p) = ((pkC l).set (i * 2) (.int .i64 p.fr)).set (i * 2 + 1) (.string p.b) := by
  induction l generalizing i with
  | nil => cases h
  | cons e r ih =>
    have hc : pkC (e :: r) = .int .i64 e.fr :: .string e.b :: pkC r := rfl
    cases i with
    | zero => rfl
    | succ i =>
      have := ih i (by simpa using h)
      rw [List.set_cons_succ, hc, show (i + 1) * 2 = i * 2 + 2 by omega]
      show .int .i64 e.fr :: .string e.b :: pkC (r.set i p) = _
      rw [this]
      rfl
/-- A row of packets of one's own. -/
def PkRow (w : World) (v : Value) (l : List Pk) : Prop := w.ownsRow 0 72 2 v l.length (pkC l)
theorem PkRow.nil (w : World) : PkRow w (.slice none 0 0) [] := World.ownsRow_nil _ _ _ _
theorem PkRow.form {w : World} {v : Value} {l : List Pk} (h : PkRow w v l) : (v = .slice none 0 0 ∧ l = []) ∨ ∃ g cap, v = .slice (some ⟨g, 0, none⟩) l.length cap ∧ l.length ≤ cap ∧ cap ≤ 9223372036854775807 := by
  obtain ⟨_, ⟨rfl, h0⟩ | ⟨g, cp, cur, rfl, _, _, hn, hm, _⟩⟩ := h
  · exact Or.inl ⟨rfl, List.eq_nil_of_length_eq_zero h0⟩
  · exact Or.inr ⟨g, cp, rfl, hn, by unfold maxLen at hm; omega⟩
theorem PkRow.slice {w : World} {v : Value} {l : List Pk} (h : PkRow w v l) : ∃ ad cap, v = .slice ad l.length cap := by
  rcases h.form with ⟨rfl, rfl⟩ | ⟨g, cap, rfl, _⟩
  · exact ⟨_, _, rfl⟩
  · exact ⟨_, _, rfl⟩
theorem PkRow.block {w : World} {v : Value} {l : List Pk} (h : PkRow w v l) {k : Nat} (hk : v.ownBlock = some k) : ∃ cur, w.heap[k]? = some (.cells cur 72 (0, 0)) := by
  obtain ⟨_, ⟨rfl, h0⟩ | ⟨g, cp, cur, rfl, _, hh, _⟩⟩ := h
  · cases hk
  · simp [Value.ownBlock] at hk
    subst hk
    exact ⟨cur, hh⟩
theorem PkRow.lt {w : World} {v : Value} {l : List Pk} (h : PkRow w v l) {k : Nat} (hk : v.ownBlock = some k) : k < w.heap.size := by
  obtain ⟨cur, hc⟩ := h.block hk
  exact (Array.getElem?_eq_some_iff.1 hc).1
theorem PkRow.kp {F : List Nat} {w w' : World} {v : Value} {l : List Pk} (h : PkRow w v l) (hk : Kp F w w') (hF : ∀ k, v.ownBlock = some k → k ∉ F) : PkRow w' v l := by
  obtain ⟨h1, h2 | ⟨g, cp, cur, rfl, hb, hh, r⟩⟩ := h
  · exact ⟨h1, Or.inl h2⟩
  · exact ⟨h1, Or.inr ⟨g, cp, cur, rfl, hb, (hk.block g (Array.getElem?_eq_some_iff.1 hh).1 (hF g rfl)).trans hh, r⟩⟩
theorem PkRow.cell {w : World} {g n cap : Nat} {l : List Pk} (h : PkRow w (.slice (some ⟨g, 0, none⟩) n cap) l) (i : Nat) (hi : i < l.length) : w.cell? ⟨g, i * 2, none⟩ = some (.int .i64 (l[i]).fr) ∧ w.cell? ⟨g, i * 2 + 1, none⟩ = some (.string (l[i]).b) := by
  have k := World.ownsRow.cells h (g := g) rfl
  obtain ⟨a, b⟩ := pkC_at l i hi
  have ka := k _ _ a
  have kb := k _ _ b
  rw [Go.WideShapes.add_plain, Nat.zero_add] at ka kb
  exact ⟨ka, kb⟩
/-- A net's box. -/
def ntC (q n : Nat) (c : Nat → Int) : Array Value := #[.slice (some ⟨q, 0, none⟩) n n, .int .i64 (c 0), .int .i64 (c 1), .int .i64 (c 2), .int .i64 (c 3)]
theorem ntC_at (q n : Nat) (c : Nat → Int) (k : Nat) (hk : k < 4) : (ntC q n c)[1 + k]? = some (.int .i64 (c k)) := by
  match k, hk with
  | 0, _ => rfl
  | 1, _ => rfl
  | 2, _ => rfl
  | 3, _ => rfl
theorem ntC_up (q n : Nat) (c : Nat → Int) (k : Nat) (x : Int) (hk : k < 4) : (ntC q n c).setIfInBounds (1 + k) (.int .i64 x) = ntC q n (up c k x) := by
  match k, hk with
  | 0, _ => rfl
  | 1, _ => rfl
  | 2, _ => rfl
  | 3, _ => rfl
/-- A net lies there: its box at b, its row of ways at q, the ways vs. -/
structure NtV (w : World) (b q : Nat) (vs : List Value) (s : St) : Prop where
  box : CBox b (ntC q s.ws.length s.c) 65 w
  row : CBox q vs.toArray 68 w
  len : vs.length = s.ws.length
  inn : ∀ (i : Nat) (v : Value) (l : List Pk), vs[i]? = some v → s.ws[i]? = some l → PkRow w v l
  apa : ∀ (i j : Nat) (u v : Value) (k : Nat), vs[i]? = some u → vs[j]? = some v → u.ownBlock = some k → v.ownBlock = some k → i = j
def ntF (b q : Nat) (vs : List Value) : List Nat := b :: q :: vs.filterMap Value.ownBlock
theorem mem_ntF {b q k : Nat} {vs : List Value} : k ∈ ntF b q vs ↔ k = b ∨ k = q ∨ ∃ v ∈ vs, v.ownBlock = some k := by unfold ntF; simp
theorem NtV.kp {F : List Nat} {w w' : World} {b q : Nat} {vs : List Value} {s : St} (h : NtV w b q vs s) (hk : Kp F w w') (hF : ∀ k ∈ ntF b q vs, k ∉ F) : NtV w' b q vs s :=
  ⟨h.box.kp hk (hF b (mem_ntF.2 (Or.inl rfl))), h.row.kp hk (hF q (mem_ntF.2 (Or.inr (Or.inl rfl)))), h.len, fun i v l hv hl => (h.inn i v l hv hl).kp hk (fun k hk1 => hF k (mem_ntF.2 (Or.inr (Or.inr ⟨v, List.mem_of_getElem? hv, hk1⟩)))), h.apa⟩
theorem NtV.lt {w : World} {b q : Nat} {vs : List Value} {s : St} (h : NtV w b q vs s) : ∀ k ∈ ntF b q vs, k < w.heap.size := fun k hk => by
  rcases mem_ntF.1 hk with rfl | rfl | ⟨v, hv, hb⟩
  · exact (Array.getElem?_eq_some_iff.1 h.box).1
  · exact (Array.getElem?_eq_some_iff.1 h.row).1
  · obtain ⟨i, hi, rfl⟩ := List.mem_iff_getElem.1 hv
    exact (h.inn i _ (s.ws[i]'(by rw [← h.len]; exact hi)) (List.getElem?_eq_getElem hi) (List.getElem?_eq_getElem _)).lt hb
theorem NtV.cell {w : World} {b q : Nat} {vs : List Value} {s : St} (h : NtV w b q vs s) : w.cell? ⟨b, 0, none⟩ = some (.slice (some ⟨q, 0, none⟩) s.ws.length s.ws.length) := h.box.cell rfl
theorem NtV.at {w : World} {b q : Nat} {vs : List Value} {s : St} (h : NtV w b q vs s) (t : Nat) (ht : t < s.ws.length) : ∃ ad cap, w.cell? ⟨q, t, none⟩ = some (.slice ad (Nt.row s t).length cap) ∧ vs[t]? = some (.slice ad (Nt.row s t).length cap) ∧ PkRow w (.slice ad (Nt.row s t).length cap) (Nt.row s t) := by
  rw [row_at ht]
  have hv : t < vs.length := by rw [h.len]; exact ht
  have hr := h.inn t vs[t] s.ws[t] (List.getElem?_eq_getElem hv) (List.getElem?_eq_getElem ht)
  obtain ⟨ad, cap, e⟩ := hr.slice
  rw [e] at hr
  refine ⟨ad, cap, ?_, by rw [List.getElem?_eq_getElem hv, e], hr⟩
  exact h.row.cell (by simp [List.getElem?_eq_getElem hv, e])
/-- A way is changed: what stays of the world but its row, its new row, the way's cell set. -/
structure WayTo (w : World) (q t : Nat) (v : Value) (l' : List Pk) (w' : World) : Prop where
  go : ∃ (W : World) (v' : Value), Kp v.ownBlock.toList w W ∧ PkRow W v' l' ∧ (v'.ownBlock = v.ownBlock ∨ v'.ownBlock = none ∨ ∃ k, v'.ownBlock = some k ∧ w.heap.size ≤ k) ∧ ∃ N : List Nat, (∀ x ∈ N, w.heap.size ≤ x ∧ v'.ownBlock ≠ some x) ∧ Kp N (W.setCell ⟨q, t, none⟩ v') w'
theorem kp_tr {a b c : World} (h : Kp [] a b) (k : Kp [] b c) : Kp [] a c := h.trans k (by simp)
/-- What stays: all below B, and all that is of no net. -/
structure Ks (B : Nat) (T : List Nat) (w w' : World) : Prop where
  os : w'.os = w.os
  tape : w'.tape = w.tape
  output : w'.output = w.output
  size : w.heap.size ≤ w'.heap.size
  block : ∀ k, k < w.heap.size → (k < B ∨ ∀ cur t f, w.heap[k]? = some (.cells cur t f) → t ∉ T) → w'.heap[k]? = w.heap[k]?
theorem Ks.refl (B : Nat) (T : List Nat) (w : World) : Ks B T w w := ⟨rfl, rfl, rfl, Nat.le_refl _, fun _ _ _ => rfl⟩
theorem Ks.trans {B : Nat} {T : List Nat} {a b c : World} (h : Ks B T a b) (k : Ks B T b c) : Ks B T a c :=
  ⟨k.os.trans h.os, k.tape.trans h.tape, k.output.trans h.output, Nat.le_trans h.size k.size, fun i hi hn => by
    have e := h.block i hi hn
    rw [k.block i (Nat.lt_of_lt_of_le hi h.size) (hn.imp_right fun hn cur t f hc => hn cur t f (by rw [← e]; exact hc)), e]⟩
theorem Ks.of {F : List Nat} {B : Nat} {T : List Nat} {w w' : World} (h : Kp F w w') (hF : ∀ k ∈ F, k < w.heap.size → B ≤ k ∧ ∃ cur t f, w.heap[k]? = some (.cells cur t f) ∧ t ∈ T) : Ks B T w w' :=
  ⟨h.os, h.tape, h.output, h.size, fun k hk hn => h.block k hk fun hm => by
    obtain ⟨h1, cur, t, f, h2, h3⟩ := hF k hm hk
    rcases hn with hn | hn
    · omega
    · exact hn cur t f h2 h3⟩
theorem Ks.nil {B : Nat} {T : List Nat} {w w' : World} (h : Kp [] w w') : Ks B T w w' := Ks.of h (fun k hk => by cases hk)
theorem Ks.mono {B B' : Nat} {T : List Nat} {w w' : World} (h : Ks B T w w') (hB : B' ≤ B) : Ks B' T w w' := ⟨h.os, h.tape, h.output, h.size, fun k hk hn => h.block k hk (hn.imp_left fun h => by omega)⟩
theorem Ks.below {B : Nat} {T : List Nat} {w w' : World} (h : Ks B T w w') (hB : B ≤ w.heap.size) : Below B w w' := ⟨h.os, h.tape, h.output, h.size, fun k hk => h.block k (by omega) (Or.inl hk)⟩
/-- The types of a net's blocks. -/
def ntT : List Nat := [65, 68, 72]
/-- A net of the call's own lies there: no block of it below B. -/
def NtAt (B : Nat) (w : World) (b : Nat) (s : St) : Prop := ∃ q vs, NtV w b q vs s ∧ ∀ k ∈ ntF b q vs, B ≤ k
theorem NtV.ty {w : World} {b q : Nat} {vs : List Value} {s : St} (h : NtV w b q vs s) : ∀ k ∈ ntF b q vs, ∃ cur t f, w.heap[k]? = some (.cells cur t f) ∧ t ∈ ntT := fun k hk => by
  rcases mem_ntF.1 hk with rfl | rfl | ⟨v, hv, hb⟩
  · exact ⟨_, _, _, h.box, by unfold ntT; simp⟩
  · exact ⟨_, _, _, h.row, by unfold ntT; simp⟩
  · obtain ⟨i, hi, rfl⟩ := List.mem_iff_getElem.1 hv
    obtain ⟨cur, hc⟩ := (h.inn i _ (s.ws[i]'(by rw [← h.len]; exact hi)) (List.getElem?_eq_getElem hi) (List.getElem?_eq_getElem _)).block hb
    exact ⟨_, _, _, hc, by unfold ntT; simp⟩
/-- A way's row and its cell in the row of ways are not one. -/
theorem NtV.q_ne {w : World} {b q : Nat} {vs : List Value} {s : St} (h : NtV w b q vs s) {v : Value} {l : List Pk} (hr : PkRow w v l) {k : Nat} (hk : v.ownBlock = some k) : k ≠ q ∧ k ≠ b := by
  obtain ⟨cur, hc⟩ := hr.block hk
  constructor
  · rintro rfl
    have := h.row
    unfold CBox at this
    rw [hc] at this
    injection this with e; injection e with _ e; exact absurd e (by decide)
  · rintro rfl
    have := h.box
    unfold CBox at this
    rw [hc] at this
    injection this with e; injection e with _ e; exact absurd e (by decide)
/-- The net behind it. -/
theorem NtV.way {w w' : World} {b q t : Nat} {vs : List Value} {s : St} {v : Value} {l' : List Pk} (h : NtV w b q vs s) (hv : vs[t]? = some v) (hw : WayTo w q t v l' w') :
    ∃ vs', NtV w' b q vs' ⟨s.ws.set t l', s.c⟩ ∧ Kp (q :: v.ownBlock.toList) w w' ∧ ∀ k ∈ ntF b q vs', k ∈ ntF b q vs ∨ w.heap.size ≤ k := by
  obtain ⟨W, v', hk, hr, hn, N, hN, hks⟩ := hw.go
  have htv : t < vs.length := (List.getElem?_eq_some_iff.1 hv).1
  have htw : t < s.ws.length := by rw [← h.len]; exact htv
  have hr0 := h.inn t v s.ws[t] hv (List.getElem?_eq_getElem htw)
  have hbq : ∀ k, v.ownBlock = some k → k ≠ q ∧ k ≠ b := fun k hk1 => h.q_ne hr0 hk1
  have hq : q ∉ v.ownBlock.toList := fun hm => (hbq q (by simpa using hm)).1 rfl
  have hb : b ∉ v.ownBlock.toList := fun hm => (hbq b (by simpa using hm)).2 rfl
  have rowW := h.row.kp hk hq
  have boxW := h.box.kp hk hb
  have hne : b ≠ q := fun e => by
    have h1 := h.row
    have h2 := h.box
    unfold CBox at h1 h2
    rw [e, h1] at h2
    injection h2 with e; injection e with _ e; exact absurd e (by decide)
  have hset := Kp.set W q t v'
  have hbl : b < w.heap.size := (Array.getElem?_eq_some_iff.1 h.box).1
  have hql : q < w.heap.size := (Array.getElem?_eq_some_iff.1 h.row).1
  have hNl : ∀ k, k < w.heap.size → k ∉ N := fun k hk1 hm => by have := (hN k hm).1; omega
  refine ⟨vs.set t v', ⟨?_, ?_, ?_, ?_, ?_⟩, ?_, ?_⟩
  · show CBox b (ntC q (s.ws.set t l').length s.c) _ _
    rw [List.length_set]
    exact (boxW.kp hset (by simpa using hne)).kp hks (hNl b hbl)
  · rw [show (vs.set t v').toArray = vs.toArray.setIfInBounds t v' by simp]
    exact (rowW.set t v').kp hks (hNl q hql)
  · rw [List.length_set]; show vs.length = (s.ws.set t l').length; rw [List.length_set]; exact h.len
  · intro i x l hx hl
    have hl : (s.ws.set t l')[i]? = some l := hl
    rw [List.getElem?_set] at hx hl
    by_cases e : t = i
    · subst e
      rw [if_pos rfl, if_pos htv] at hx
      rw [if_pos rfl, if_pos htw] at hl
      cases hx
      cases hl
      have hq' : ∀ k, v'.ownBlock = some k → k ∉ [q] := fun k hk1 hm => by
        rw [List.mem_singleton] at hm
        subst hm
        obtain ⟨cur, hc⟩ := hr.block hk1
        unfold CBox at rowW
        rw [hc] at rowW
        injection rowW with e; injection e with _ e; exact absurd e (by decide)
      exact (hr.kp hset hq').kp hks (fun k hk1 hm => (hN k hm).2 hk1)
    · rw [if_neg e] at hx hl
      have r := h.inn i x l hx hl
      have r1 := r.kp hk (fun k hk1 hm => e (h.apa t i v x k hv hx (by simpa using hm) hk1))
      exact (r1.kp hset (fun k hk1 hm => (h.q_ne r hk1).1 (by simpa using hm))).kp hks (fun k hk1 => hNl k (r.lt hk1))
  · have key : ∀ j z, j ≠ t → vs[j]? = some z → ∀ k, v'.ownBlock = some k → z.ownBlock = some k → False := fun j z hj hz k hk1 hk2 => by
      have hjl : j < s.ws.length := by rw [← h.len]; exact (List.getElem?_eq_some_iff.1 hz).1
      rcases hn with e | e | ⟨k', e, hle⟩
      · exact hj (h.apa j t z v k hz hv hk2 (by rw [← e]; exact hk1))
      · rw [e] at hk1; cases hk1
      · rw [e] at hk1
        cases hk1
        have := (h.inn j z s.ws[j] hz (List.getElem?_eq_getElem hjl)).lt hk2
        omega
    intro i j x y k hx hy hkx hky
    rw [List.getElem?_set] at hx hy
    by_cases ei : t = i
    · by_cases ej : t = j
      · omega
      · rw [if_pos ei, if_pos (by omega)] at hx
        rw [if_neg ej] at hy
        cases hx
        exact (key j y (fun e => ej e.symm) hy k hkx hky).elim
    · rw [if_neg ei] at hx
      by_cases ej : t = j
      · rw [if_pos ej, if_pos (by omega)] at hy
        cases hy
        exact (key i x (fun e => ei e.symm) hx k hky hkx).elim
      · rw [if_neg ej] at hy
        exact h.apa i j x y k hx hy hkx hky
  · have e1 : Kp (q :: v.ownBlock.toList) w (W.setCell ⟨q, t, none⟩ v') := (hk.mono (fun x hx => List.mem_cons_of_mem _ hx)).trans hset (fun x hx => by simp at hx; subst hx; exact Or.inl (List.mem_cons_self ..))
    exact e1.trans hks (fun x hx => Or.inr (hN x hx).1)
  · intro k hk1
    rcases mem_ntF.1 hk1 with rfl | rfl | ⟨x, hx, hbx⟩
    · exact Or.inl (mem_ntF.2 (Or.inl rfl))
    · exact Or.inl (mem_ntF.2 (Or.inr (Or.inl rfl)))
    · rcases List.mem_or_eq_of_mem_set hx with h1 | h1
      · exact Or.inl (mem_ntF.2 (Or.inr (Or.inr ⟨x, h1, hbx⟩)))
      · subst h1
        rcases hn with e | e | ⟨k', e, hle⟩
        · exact Or.inl (mem_ntF.2 (Or.inr (Or.inr ⟨v, List.mem_of_getElem? hv, by rw [← e]; exact hbx⟩)))
        · rw [e] at hbx; cases hbx
        · rw [e] at hbx; cases hbx; exact Or.inr hle
end Go.Proofs.Ytledoopfffhigaa
namespace Go.Proofs.Ytledoopfffhigaa
open Go.RowKit Nt

theorem nhas_any (b q : Nat) (vs : List Value) (s : St) (x : Int) (w : World) (h : NtV w b q vs s) :
    Calls Try.prog 26 #[.pointer (some ⟨b, 0, none⟩), .int .i64 x] w fun e w' => e = .returned (.bool (hasN s.ws.length x)) ∧ w' = w := by
  have c0 := h.cell
  have HB : Hid (hasN s.ws.length x = true ↔ 0 ≤ x ∧ x < (s.ws.length : Int)) := hide hasN_iff
  clear h
  generalize hasN s.ws.length x = B at *
  generalize s.ws.length = n at *
  go_enter Try.func26, Try.ntmps26
  by_cases h1 : 0 ≤ x
  · by_cases h2 : x < (n : Int)
    · go_wp2
      go_ret
      exact ⟨ret_bool (Bool.eq_iff_iff.2 (by rw [unhide HB]; simp; omega)), rfl⟩
    · go_wp2
      go_ret
      exact ⟨ret_bool (Bool.eq_iff_iff.2 (by rw [unhide HB]; simp; omega)), rfl⟩
  · go_wp2
    go_ret
    exact ⟨ret_bool (Bool.eq_iff_iff.2 (by rw [unhide HB]; simp; omega)), rfl⟩
theorem wfull_any (ad : Option Addr) (n cap : Nat) (w : World) :
    Calls Try.prog 27 #[.slice ad n cap] w fun e w' => e = .returned (.bool (decide (n = 4096))) ∧ w' = w := by
  go_enter Try.func27, Try.ntmps27
  go_wp2
  go_ret
  exact ⟨ret_bool (Bool.eq_iff_iff.2 (by simp; omega)), rfl⟩
theorem whas_any (ad : Option Addr) (n cap : Nat) (x : Int) (w : World) :
    Calls Try.prog 41 #[.slice ad n cap, .int .i64 x] w fun e w' => e = .returned (.bool (hasN n x)) ∧ w' = w := by
  have HB : Hid (hasN n x = true ↔ 0 ≤ x ∧ x < (n : Int)) := hide hasN_iff
  generalize hasN n x = B at *
  go_enter Try.func41, Try.ntmps41
  by_cases h1 : 0 ≤ x
  · by_cases h2 : x < (n : Int)
    · go_wp2
      go_ret
      exact ⟨ret_bool (Bool.eq_iff_iff.2 (by rw [unhide HB]; simp; omega)), rfl⟩
    · go_wp2
      go_ret
      exact ⟨ret_bool (Bool.eq_iff_iff.2 (by rw [unhide HB]; simp; omega)), rfl⟩
  · go_wp2
    go_ret
    exact ⟨ret_bool (Bool.eq_iff_iff.2 (by rw [unhide HB]; simp; omega)), rfl⟩
set_option maxHeartbeats 1000000 in
theorem nfind_any (b q : Nat) (vs : List Value) (s : St) (t i : Int) (w : World) (h : NtV w b q vs s) :
    Calls Try.prog 31 #[.pointer (some ⟨b, 0, none⟩), .int .i64 t, .int .i64 i] w fun e w' => e = .returned (.int .i64 (fiE s t i)) ∧ w' = w := by
  have HA := hide (fun W (hW : NtV W b q vs s) => nhas_any b q vs s t W hW)
  have HM := hide h
  unfold fiE
  cases ht : hasN s.ws.length t with
  | false =>
    rw [ht] at HA
    simp only [Bool.false_eq_true, if_false]
    clear h
    go_enter Try.func31, Try.ntmps31
    go_wp2_with fail
    refine (unhide HA _ (unhide HM)).mono ?_
    rintro r w1 ⟨rfl, rfl⟩
    go_wp2
    go_ret
    exact ⟨rfl, rfl⟩
  | true =>
    rw [ht] at HA
    obtain ⟨m, rfl, hm⟩ := hasN_nat ht
    simp only [if_true]
    have c0 := h.cell
    obtain ⟨ad, cap, c1, _, _⟩ := h.at m hm
    have WH := hide (fun W => whas_any ad (row s (m : Int)).length cap i W)
    have hmi : (m : Int) < (s.ws.length : Int) := by omega
    clear h hm ht
    generalize s.ws.length = n at *
    generalize (row s (m : Int)).length = k at *
    cases hi : hasN k i with
    | true =>
      rw [hi] at WH
      simp only [if_true]
      clear hi
      go_enter Try.func31, Try.ntmps31
      go_wp2_with fail
      refine (unhide HA _ (unhide HM)).mono ?_
      rintro r w1 ⟨rfl, rfl⟩
      go_wp2_with fail
      refine (unhide WH _).mono ?_
      rintro r w1 ⟨rfl, rfl⟩
      go_wp2
      go_ret
      exact ⟨rfl, rfl⟩
    | false =>
      rw [hi] at WH
      simp only [Bool.false_eq_true, if_false]
      clear hi
      go_enter Try.func31, Try.ntmps31
      go_wp2_with fail
      refine (unhide HA _ (unhide HM)).mono ?_
      rintro r w1 ⟨rfl, rfl⟩
      go_wp2_with fail
      refine (unhide WH _).mono ?_
      rintro r w1 ⟨rfl, rfl⟩
      go_wp2
      go_ret
      exact ⟨rfl, rfl⟩
set_option maxHeartbeats 1000000 in
theorem nway_any (b q : Nat) (vs : List Value) (s : St) (t : Int) (w : World) (h : NtV w b q vs s) :
    Calls Try.prog 18 #[.pointer (some ⟨b, 0, none⟩), .int .i64 t] w fun e w' => e = .returned (.tuple #[.int .i64 (wyN s t), .int .i64 (wyE s t)]) ∧ w' = w := by
  have HA := hide (fun W (hW : NtV W b q vs s) => nhas_any b q vs s t W hW)
  have HM := hide h
  unfold wyN wyE
  cases ht : hasN s.ws.length t with
  | false =>
    rw [ht] at HA
    simp only [Bool.false_eq_true, if_false]
    clear h
    go_enter Try.func18, Try.ntmps18
    go_wp2_with fail
    refine (unhide HA _ (unhide HM)).mono ?_
    rintro r w1 ⟨rfl, rfl⟩
    go_wp2
    go_ret2
    exact ⟨rfl, rfl⟩
  | true =>
    rw [ht] at HA
    obtain ⟨m, rfl, hm⟩ := hasN_nat ht
    simp only [if_true]
    have c0 := h.cell
    obtain ⟨ad, cap, c1, _, _⟩ := h.at m hm
    have hmi : (m : Int) < (s.ws.length : Int) := by omega
    clear h hm ht
    generalize s.ws.length = n at *
    generalize (row s (m : Int)).length = k at *
    go_enter Try.func18, Try.ntmps18
    go_wp2_with fail
    refine (unhide HA _ (unhide HM)).mono ?_
    rintro r w1 ⟨rfl, rfl⟩
    go_wp2
    go_ret2
    exact ⟨rfl, rfl⟩
theorem naLoad (b k : Nat) (x : Int) (w : World) (hc : w.cell? ⟨b, k, none⟩ = some (.int .i64 x)) : Calls Try.prog 38 #[.pointer (some ⟨b, k, none⟩)] w fun e w' => e = .returned (.int .i64 x) ∧ w' = w := by
  have hl := run_call_load (P := Try.prog) Try.func45 (by kernel_rfl) (by kernel_rfl) (by kernel_rfl) .i64 (by kernel_rfl) hc
  go_enter Try.func38, Try.ntmps38
  go_wp2
  go_ret
  exact ⟨rfl, rfl⟩
theorem naAdd (b k : Nat) (x y z : Int) (w : World) (hc : w.cell? ⟨b, k, none⟩ = some (.int .i64 x)) (hz : w.frozen? ⟨b, k, none⟩ = false) (hs : x + y = z) (h0 : -9223372036854775808 ≤ z) (h1 : z ≤ 9223372036854775807) : Calls Try.prog 40 #[.pointer (some ⟨b, k, none⟩), .int .i64 y] w fun e w' => e = .returned (.int .i64 z) ∧ w' = w.setCell ⟨b, k, none⟩ (.int .i64 z) := by
  have hl := run_call_add (P := Try.prog) Try.func46 (by kernel_rfl) (by kernel_rfl) (by kernel_rfl) .i64 (by kernel_rfl) (s := z) (y := y) hc hz (by subst hs; simp [Op.intArith, IntKind.wrap, IntKind.signed, go_sem]; split <;> omega)
  clear hs h0 h1
  go_enter Try.func40, Try.ntmps40
  go_wp2
  go_ret
  exact ⟨rfl, rfl⟩
/-- A count raised: the net behind it. -/
theorem NtV.raised {w : World} {b q : Nat} {vs : List Value} {s : St} (h : NtV w b q vs s) (k : Nat) (hk : k < 4) (x : Int) : NtV (w.setCell ⟨b, 1 + k, none⟩ (.int .i64 x)) b q vs ⟨s.ws, up s.c k x⟩ ∧ Kp [b] w (w.setCell ⟨b, 1 + k, none⟩ (.int .i64 x)) := by
  have hs := Kp.set w b (1 + k) (.int .i64 x)
  have hne : b ≠ q := fun e => by
    have h1 := h.row
    have h2 := h.box
    unfold CBox at h1 h2
    rw [e, h1] at h2
    injection h2 with e; injection e with _ e; exact absurd e (by decide)
  exact ⟨⟨by rw [← ntC_up _ _ _ _ _ hk]; exact h.box.set (1 + k) _, h.row.kp hs (by simpa using fun e => hne e.symm), h.len, fun i v l hv hl => (h.inn i v l hv hl).kp hs (fun j hj hm => (h.q_ne (h.inn i v l hv hl) hj).2 (by simpa using hm)), h.apa⟩, hs⟩
set_option maxHeartbeats 1000000 in
theorem nraise_any (b q : Nat) (vs : List Value) (s : St) (k : Nat) (x : Int) (w : World) (h : NtV w b q vs s) (hk : k < 4) (h0 : 0 ≤ s.c k) (hx0 : 0 ≤ x) (hx : s.c k + x ≤ 4611686018427387904) :
    Calls Try.prog 30 #[.pointer (some ⟨b, 1, none⟩), .int .i64 (k : Int), .int .i64 x] w fun e w' => (∃ v, e = .returned v) ∧ NtV w' b q vs ⟨s.ws, up s.c k (s.c k + x)⟩ ∧ Kp [b] w w' := by
  obtain ⟨h1, h2⟩ := h.raised k hk (s.c k + x)
  have AD := hide (naAdd b (1 + k) (s.c k) x (s.c k + x) w (h.box.cell (ntC_at _ _ _ k hk)) (h.box.froz _) rfl (by omega) (by omega))
  have H1 := hide h1
  have H2 := hide h2
  have hki : (k : Int) < 4 := by omega
  clear h h1 h2 h0 hx0 hx hk
  generalize s.c k + x = y at *
  go_enter Try.func30, Try.ntmps30
  go_wp2_with fail
  refine (unhide AD).mono ?_
  rintro r w1 ⟨rfl, rfl⟩
  go_wp2
  go_end0
  exact ⟨⟨_, rfl⟩, unhide H1, unhide H2⟩
end Go.Proofs.Ytledoopfffhigaa
