/-
  The document's net: how it lies; none, Way, get, New.
  A pair of results of which the first lies in cells. Of no program.
-/
import Derived.Test.YtledoopfffhigaaT08
import Derived.Test.YtledoopfffhigaaT01
import Derived.Laws.ResultCell
namespace Go.Proofs.Ytledoopfffhigaa
open Go.RowKit Nt

/-- What stays, by the blocks that change. -/
theorem Ks.kp {B : Nat} {T : List Nat} {w w' : World} (h : Ks B T w w') : ∃ F : List Nat, Kp F w w' ∧ ∀ k ∈ F, B ≤ k ∧ ∃ cur t f, w.heap[k]? = some (.cells cur t f) ∧ t ∈ T := by
  classical
  refine ⟨(List.range w.heap.size).filter fun k => decide (B ≤ k ∧ ∃ cur t f, w.heap[k]? = some (.cells cur t f) ∧ t ∈ T), ⟨h.os, h.tape, h.output, h.size, fun k hk hn => h.block k hk ?_⟩, fun k hk => ?_⟩
  · by_cases hb : k < B
    · exact Or.inl hb
    · right
      intro cur t f hc ht
      exact hn (List.mem_filter.2 ⟨List.mem_range.2 hk, by simpa using ⟨by omega, cur, t, ⟨_, _, hc⟩, ht⟩⟩)
  · simpa using (List.mem_filter.1 hk).2
/-- A net stays while what is none of it changes. -/
theorem NtAt.ks {B B' : Nat} {T : List Nat} {w w' : World} {b : Nat} {s : St} (h : NtAt B w b s) (hk : Ks B' T w w') (hT : ∀ t ∈ T, t ∉ ntT) : NtAt B w' b s := by
  obtain ⟨q, vs, h1, h2⟩ := h
  obtain ⟨F, hF, hFt⟩ := hk.kp
  refine ⟨q, vs, h1.kp hF (fun k hk1 hm => ?_), h2⟩
  obtain ⟨_, cur, t, f, e1, e2⟩ := hFt k hm
  obtain ⟨cur', t', f', e3, e4⟩ := h1.ty k hk1
  rw [e1] at e3
  injection e3 with e5
  injection e5 with _ e6
  subst e6
  exact hT _ e2 e4
theorem info_rp : (Try.prog.info? 79).map (fun i => (i.zero, i.size, i.bytes)) = some (some (.agg #[.int .i64 0, .string ⟨#[]⟩]), 2, 24) := by kernel_rfl
/-- A row of the document's packets. -/
def RpRow (w : World) (v : Value) (l : List Pk) : Prop := w.ownsRow 0 79 2 v l.length (pkC l)
theorem RpRow.nil (w : World) : RpRow w (.slice none 0 0) [] := World.ownsRow_nil _ _ _ _
theorem RpRow.form {w : World} {v : Value} {l : List Pk} (h : RpRow w v l) : (v = .slice none 0 0 ∧ l = []) ∨ ∃ g cap, v = .slice (some ⟨g, 0, none⟩) l.length cap ∧ l.length ≤ cap ∧ cap ≤ 9223372036854775807 := by
  obtain ⟨_, ⟨rfl, h0⟩ | ⟨g, cp, cur, rfl, _, _, hn, hm, _⟩⟩ := h
  · exact Or.inl ⟨rfl, List.eq_nil_of_length_eq_zero h0⟩
  · exact Or.inr ⟨g, cp, rfl, hn, by unfold maxLen at hm; omega⟩
theorem RpRow.slice {w : World} {v : Value} {l : List Pk} (h : RpRow w v l) : ∃ ad cap, v = .slice ad l.length cap := by
  rcases h.form with ⟨rfl, rfl⟩ | ⟨g, cap, rfl, _⟩
  · exact ⟨_, _, rfl⟩
  · exact ⟨_, _, rfl⟩
theorem RpRow.block {w : World} {v : Value} {l : List Pk} (h : RpRow w v l) {k : Nat} (hk : v.ownBlock = some k) : ∃ cur, w.heap[k]? = some (.cells cur 79 (0, 0)) := by
  obtain ⟨_, ⟨rfl, h0⟩ | ⟨g, cp, cur, rfl, _, hh, _⟩⟩ := h
  · cases hk
  · simp [Value.ownBlock] at hk
    subst hk
    exact ⟨cur, hh⟩
theorem RpRow.kp {F : List Nat} {w w' : World} {v : Value} {l : List Pk} (h : RpRow w v l) (hk : Kp F w w') (hF : ∀ k, v.ownBlock = some k → k ∉ F) : RpRow w' v l := by
  obtain ⟨h1, h2 | ⟨g, cp, cur, rfl, hb, hh, r⟩⟩ := h
  · exact ⟨h1, Or.inl h2⟩
  · exact ⟨h1, Or.inr ⟨g, cp, cur, rfl, hb, (hk.block g (Array.getElem?_eq_some_iff.1 hh).1 (hF g rfl)).trans hh, r⟩⟩
theorem RpRow.cell {w : World} {g n cap : Nat} {l : List Pk} (h : RpRow w (.slice (some ⟨g, 0, none⟩) n cap) l) (i : Nat) (hi : i < l.length) : w.cell? ⟨g, i * 2, none⟩ = some (.int .i64 (l[i]).fr) ∧ w.cell? ⟨g, i * 2 + 1, none⟩ = some (.string (l[i]).b) := by
  have k := World.ownsRow.cells h (g := g) rfl
  obtain ⟨a, b⟩ := pkC_at l i hi
  have ka := k _ _ a
  have kb := k _ _ b
  rw [Go.WideShapes.add_plain, Nat.zero_add] at ka kb
  exact ⟨ka, kb⟩
/-- The document's net lies there: its box at g, its row of rows at q, the rows vs. -/
structure RnV (w : World) (g q : Nat) (vs : List Value) (s : St) : Prop where
  box : CBox g (ntC q s.ws.length s.c) 37 w
  row : CBox q vs.toArray 77 w
  len : vs.length = s.ws.length
  inn : ∀ (i : Nat) (v : Value) (l : List Pk), vs[i]? = some v → s.ws[i]? = some l → RpRow w v l
theorem RnV.ty {w : World} {g q : Nat} {vs : List Value} {s : St} (h : RnV w g q vs s) {v : Value} {l : List Pk} (hr : RpRow w v l) : ∀ k, v.ownBlock = some k → k ≠ q ∧ k ≠ g := fun k hk => by
  obtain ⟨cur, hc⟩ := hr.block hk
  exact ⟨CBox.apart (cs := cur) hc h.row (by decide), CBox.apart (cs := cur) hc h.box (by decide)⟩
theorem RnV.gq {w : World} {g q : Nat} {vs : List Value} {s : St} (h : RnV w g q vs s) : g ≠ q := h.box.apart h.row (by decide)
theorem RnV.kp {w w' : World} {g q : Nat} {vs : List Value} {s : St} (h : RnV w g q vs s) (hk : Kp [] w w') : RnV w' g q vs s :=
  ⟨h.box.kp hk (by simp), h.row.kp hk (by simp), h.len, fun i v l hv hl => (h.inn i v l hv hl).kp hk (by simp)⟩
/-- The types of its blocks that change. -/
def rnT : List Nat := [37, 77]
def rnT3 : List Nat := [37, 77, 79]
/-- The document's net, of the call's own. -/
def RnAt (B : Nat) (w : World) (g : Nat) (s : St) : Prop := ∃ q vs, RnV w g q vs s ∧ B ≤ g ∧ B ≤ q
theorem RnAt.ks {B B' : Nat} {T : List Nat} {w w' : World} {g : Nat} {s : St} (h : RnAt B w g s) (hk : Ks B' T w w') (hT : ∀ t ∈ T, t ∉ rnT3) : RnAt B w' g s := by
  obtain ⟨q, vs, h1, h2⟩ := h
  obtain ⟨F, hF, hFt⟩ := hk.kp
  have key : ∀ k cur t f, w.heap[k]? = some (.cells cur t f) → t ∈ rnT3 → k ∉ F := fun k cur t f hc ht hm => by
    obtain ⟨_, cur', t', f', e1, e2⟩ := hFt k hm
    rw [e1] at hc
    injection hc with e5
    injection e5 with _ e6
    subst e6
    exact hT _ e2 ht
  refine ⟨q, vs, ⟨h1.box.kp hF (key _ _ _ _ h1.box (by unfold rnT3; simp)), h1.row.kp hF (key _ _ _ _ h1.row (by unfold rnT3; simp)), h1.len, fun i v l hv hl => (h1.inn i v l hv hl).kp hF (fun k hk1 => ?_)⟩, h2⟩
  obtain ⟨cur, hc⟩ := (h1.inn i v l hv hl).block hk1
  exact key _ _ _ _ hc (by unfold rnT3; simp)
theorem RnV.cell {w : World} {g q : Nat} {vs : List Value} {s : St} (h : RnV w g q vs s) : w.cell? ⟨g, 0, none⟩ = some (.slice (some ⟨q, 0, none⟩) s.ws.length s.ws.length) := h.box.cell rfl
theorem RnV.at {w : World} {g q : Nat} {vs : List Value} {s : St} (h : RnV w g q vs s) (t : Nat) (ht : t < s.ws.length) : ∃ ad cap, w.cell? ⟨q, t, none⟩ = some (.slice ad (Nt.row s t).length cap) ∧ vs[t]? = some (.slice ad (Nt.row s t).length cap) ∧ RpRow w (.slice ad (Nt.row s t).length cap) (Nt.row s t) := by
  rw [row_at ht]
  have hv : t < vs.length := by rw [h.len]; exact ht
  have hr := h.inn t vs[t] s.ws[t] (List.getElem?_eq_getElem hv) (List.getElem?_eq_getElem ht)
  obtain ⟨ad, cap, e⟩ := hr.slice
  rw [e] at hr
  refine ⟨ad, cap, ?_, by rw [List.getElem?_eq_getElem hv, e], hr⟩
  exact h.row.cell (by simp [List.getElem?_eq_getElem hv, e])
theorem rn_ks {B : Nat} {w w' : World} {g q : Nat} {vs : List Value} {s : St} {F : List Nat} (h : RnV w g q vs s) (hB : B ≤ g ∧ B ≤ q) (hk : Kp F w w') (hF : ∀ k ∈ F, k = g ∨ k = q ∨ w.heap.size ≤ k) : Ks B rnT w w' :=
  Ks.of hk (fun k hk1 hlt => by
    rcases hF k hk1 with rfl | rfl | h1
    · exact ⟨hB.1, _, _, _, h.box, by unfold rnT; simp⟩
    · exact ⟨hB.2, _, _, _, h.row, by unfold rnT; simp⟩
    · omega)
/-- A way of it set to a new row. -/
theorem RnV.put {w W : World} {g q t : Nat} {vs : List Value} {s : St} {v' : Value} {l' : List Pk} (h : RnV w g q vs s) (ht : t < s.ws.length) (hk : Kp [] w W) (hr : RpRow W v' l') : RnV (W.setCell ⟨q, t, none⟩ v') g q (vs.set t v') ⟨s.ws.set t l', s.c⟩ ∧ Kp [q] w (W.setCell ⟨q, t, none⟩ v') := by
  have hW := h.kp hk
  have hs := Kp.set W q t v'
  have htv : t < vs.length := by rw [h.len]; exact ht
  refine ⟨⟨?_, ?_, ?_, ?_⟩, hk.mono (G := [q]) (by simp) |>.trans hs (fun _ hx => Or.inl hx)⟩
  · show CBox g (ntC q (s.ws.set t l').length s.c) _ _
    rw [List.length_set]
    exact hW.box.kp hs (by simpa using hW.gq)
  · rw [show (vs.set t v').toArray = vs.toArray.setIfInBounds t v' by simp]
    exact hW.row.set t v'
  · rw [List.length_set]; show vs.length = (s.ws.set t l').length; rw [List.length_set]; exact h.len
  · intro i x l hx hl
    have hl : (s.ws.set t l')[i]? = some l := hl
    rw [List.getElem?_set] at hx hl
    by_cases e : t = i
    · subst e
      rw [if_pos rfl, if_pos htv] at hx
      rw [if_pos rfl, if_pos ht] at hl
      cases hx
      cases hl
      exact hr.kp hs (fun k hk1 hm => (hW.ty hr k hk1).1 (by simpa using hm))
    · rw [if_neg e] at hx hl
      have r := hW.inn i x l hx hl
      exact r.kp hs (fun k hk1 hm => (hW.ty r k hk1).1 (by simpa using hm))
/-- A count of it set. -/
theorem RnV.count {w W : World} {g q : Nat} {vs : List Value} {s : St} (h : RnV w g q vs s) (hk : Kp [] w W) (k : Nat) (hk4 : k < 4) (x : Int) : RnV (W.setCell ⟨g, 1 + k, none⟩ (.int .i64 x)) g q vs ⟨s.ws, up s.c k x⟩ ∧ Kp [g] w (W.setCell ⟨g, 1 + k, none⟩ (.int .i64 x)) := by
  have hW := h.kp hk
  have hs := Kp.set W g (1 + k) (.int .i64 x)
  refine ⟨⟨?_, hW.row.kp hs (by simpa using fun e => hW.gq e.symm), hW.len, fun i v l hv hl => (hW.inn i v l hv hl).kp hs (fun j hj hm => (hW.ty (hW.inn i v l hv hl) j hj).2 (by simpa using hm))⟩, hk.mono (G := [g]) (by simp) |>.trans hs (fun _ hx => Or.inl hx)⟩
  rw [← ntC_up _ _ _ _ _ hk4]
  exact hW.box.set (1 + k) _
theorem rnone_any (g q : Nat) (vs : List Value) (s : St) (x : Int) (w : World) (h : RnV w g q vs s) :
    Calls Try.prog 35 #[.pointer (some ⟨g, 0, none⟩), .int .i64 x] w fun e w' => e = .returned (.bool (!hasN s.ws.length x)) ∧ w' = w := by
  have c0 := h.cell
  have HB : Hid (hasN s.ws.length x = true ↔ 0 ≤ x ∧ x < (s.ws.length : Int)) := hide hasN_iff
  clear h
  generalize hasN s.ws.length x = B at *
  generalize s.ws.length = n at *
  go_enter Try.func35, Try.ntmps35
  by_cases h1 : x < 0
  · have e : B = false := by
      cases B with
      | false => rfl
      | true => have := (unhide HB).1 rfl; omega
    subst e
    clear HB
    go_wp2
    go_ret
    exact ⟨rfl, rfl⟩
  · by_cases h2 : (n : Int) ≤ x
    · have e : B = false := by
        cases B with
        | false => rfl
        | true => have := (unhide HB).1 rfl; omega
      subst e
      clear HB
      go_wp2
      go_ret
      exact ⟨rfl, rfl⟩
    · have e : B = true := (unhide HB).2 (by omega)
      subst e
      clear HB
      go_wp2
      go_ret
      exact ⟨rfl, rfl⟩
set_option maxHeartbeats 1000000 in
theorem rway_any (g q : Nat) (vs : List Value) (s : St) (t : Int) (w : World) (h : RnV w g q vs s) :
    Calls Try.prog 24 #[.pointer (some ⟨g, 0, none⟩), .int .i64 t] w fun e w' => e = .returned (.tuple #[.int .i64 (wyN s t), .int .i64 (wyE s t)]) ∧ w' = w := by
  have HA := hide (rnone_any g q vs s t w h)
  unfold wyN wyE
  cases ht : hasN s.ws.length t with
  | false =>
    rw [ht] at HA
    simp only [Bool.false_eq_true, if_false]
    clear h
    go_enter Try.func24, Try.ntmps24
    go_wp2_with fail
    refine (unhide HA).mono ?_
    rintro r w1 ⟨rfl, rfl⟩
    go_wp2
    go_ret2
    exact ⟨rfl, rfl⟩
  | true =>
    rw [ht] at HA
    obtain ⟨m, rfl, hm⟩ := hasN_nat ht
    simp only [if_true]
    have c0 := h.cell
    obtain ⟨ad, cap, c1, _, _⟩ := h.at m hm
    have hmi : (m : Int) < (s.ws.length : Int) := by omega
    clear h hm ht
    generalize s.ws.length = n at *
    generalize (row s (m : Int)).length = k at *
    go_enter Try.func24, Try.ntmps24
    go_wp2_with fail
    refine (unhide HA).mono ?_
    rintro r w1 ⟨rfl, rfl⟩
    go_wp2
    go_ret2
    exact ⟨rfl, rfl⟩
theorem rnnew_not (n : Int) (w : World) (h : n < 1 ∨ 17 < n) :
    Calls Try.prog 8 #[.int .i64 n] w fun e w' => e = .returned (.tuple #[.pointer none, .int .i64 1]) ∧ w' = w := by
  go_enter Try.func8, Try.ntmps8
  by_cases h1 : n < 1
  · clear h
    go_wp2
    go_ret2
    exact ⟨rfl, rfl⟩
  · have h2 : 17 < n := by omega
    clear h
    go_wp2
    go_ret2
    exact ⟨rfl, rfl⟩
theorem info_rps : (Try.prog.info? 77).map (fun i => (i.zero, i.size, i.bytes)) = some (some (.slice none 0 0), 1, 24) := by kernel_rfl
theorem rmk_parts (n : Nat) (hn : n ≤ 17) (W : World) : (Instr.makeSlice 35 (.int .i64 (n : Int)) (.int .i64 (n : Int))).run Try.prog W = .ok (.slice (some ⟨W.heap.size, 0, none⟩) n n) (W.alloc (.cells (Array.replicate n (Value.slice none 0 0)) 77)) := by
  obtain ⟨i0, hi, hz0, hz1, hz2⟩ := info_parts info_rps
  have := run_make (P := Try.prog) W 35 77 i0 (.slice none 0 0) Try.underlying35 hi hz0 .i64 .i64 (n : Int) (n : Int) (by omega) (by omega) (by rw [hz2]; omega) (by omega)
  rw [hz1] at this
  simp only [Int.toNat_natCast, Nat.mul_one] at this
  rw [this]
  show _ = Result.ok _ (W.alloc (.cells (List.replicate n (Value.slice none 0 0)).toArray _))
  rw [← made_one]
  rfl
set_option maxHeartbeats 1000000 in
set_option maxRecDepth 100000 in
theorem rnnew_ok (n : Nat) (h2 : n ≤ 17) (h1 : 1 ≤ n) (w : World) :
    Calls Try.prog 8 #[.int .i64 (n : Int)] w fun e w' => ∃ b, e = .returned (.tuple #[.pointer (some ⟨b, 0, none⟩), .int .i64 0]) ∧ RnAt w.heap.size w' b (new n) ∧ Kp [] w w' := by
  have hmk := rmk_parts n h2
  go_enter Try.func8, Try.ntmps8
  go_wp2
  go_ret2
  have hq := CBox.new w (Array.replicate n (Value.slice none 0 0)) 77
  have k1 := Kp.alloc w (.cells (Array.replicate n (Value.slice none 0 0)) 77)
  have hz : (w.alloc (.cells (Array.replicate n (Value.slice none 0 0)) 77)).heap.size = w.heap.size + 1 := by simp
  generalize w.alloc (.cells (Array.replicate n (Value.slice none 0 0)) 77) = W1 at *
  have hg := CBox.new W1 (ntC w.heap.size n zero) 37
  have k2 := Kp.alloc W1 (.cells (ntC w.heap.size n zero) 37)
  rw [hz] at hg
  refine ⟨w.heap.size + 1, rfl, ⟨w.heap.size, List.replicate n (.slice none 0 0), ⟨?_, ?_, by unfold new; simp, ?_⟩, by omega, Nat.le_refl _⟩, kp_tr k1 k2⟩
  · show CBox _ (ntC w.heap.size (List.replicate n ([] : List Pk)).length zero) _ _
    rw [List.length_replicate]
    exact hg
  · have := hq.kp k2 (by simp)
    rwa [show (List.replicate n (Value.slice none 0 0)).toArray = Array.replicate n (Value.slice none 0 0) by simp]
  · intro i v l hv hl
    have e1 := List.eq_of_mem_replicate (List.mem_of_getElem? hv)
    have e2 := List.eq_of_mem_replicate (List.mem_of_getElem? (show (List.replicate n ([] : List Pk))[i]? = some l from hl))
    rw [e1, e2]
    exact RpRow.nil _
end Go.Proofs.Ytledoopfffhigaa
namespace Go.Proofs.Ytledoopfffhigaa
open Go.RowKit

theorem results_row_tmp {P : Program} {fn : Func} {p u : Tmp} {ty : TypeId} (h : fn.results = #[.cell p ty, .tmp u]) (tmps : Array Value) (w : World) (g : Nat) (t : TypeId) (cs : Array Value) (fr : Nat × Nat) (d : TypeDesc)
    (hp : tmps.getD p undef = .pointer (some ⟨g, 0, none⟩)) (hg : w.heap[g]? = some (.cells cs t fr))
    (hu : P.underlying ty = some d) (hd : (match d with | .struct _ | .array _ _ => true | _ => false) = true) (hi : (P.info? ty).map (·.size) = some cs.size) :
    (results fn tmps).run P w = .ok (.tuple #[.agg cs, tmps.getD u undef]) w := by
  rw [results_cell_tmp h, hp]
  simp [asAddr, run_loadVar_row w g t ty cs fr d hg hu hd hi]
end Go.Proofs.Ytledoopfffhigaa
