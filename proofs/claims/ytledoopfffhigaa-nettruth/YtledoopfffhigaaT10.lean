/-
  The document's net: get, without.
-/
import Derived.Test.YtledoopfffhigaaT09
import Derived.Test.YtledoopfffhigaaT06
import Derived.Deep.DeepCutAuto
namespace Go.Proofs.Ytledoopfffhigaa
open Go.RowKit Nt

set_option maxHeartbeats 2000000 in
set_option maxRecDepth 100000 in
theorem rget_any (g q : Nat) (vs : List Value) (s : St) (t i : Int) (w : World) (h : RnV w g q vs s) :
    Calls Try.prog 36 #[.pointer (some ⟨g, 0, none⟩), .int .i64 t, .int .i64 i] w fun e w' => e = .returned (.tuple #[.agg #[.int .i64 (taF s t i), .string (taB s t i)], .int .i64 (fiE s t i)]) ∧ Kp [] w w' := by
  have HA := hide (rnone_any g q vs s t (w.alloc (.cells #[.int .i64 0, .string ⟨#[]⟩] 79)) (h.kp (Kp.alloc _ _)))
  have lg : g < w.heap.size := (Array.getElem?_eq_some_iff.1 h.box).1
  have lq : q < w.heap.size := (Array.getElem?_eq_some_iff.1 h.row).1
  have bx := CBox.new w #[.int .i64 0, .string ⟨#[]⟩] 79
  have kx := Kp.alloc w (.cells #[.int .i64 0, .string ⟨#[]⟩] 79)
  unfold taF taB
  by_cases hf : fiE s t i = 0
  · have hnth := (nth_mem hf).2
    obtain ⟨m, k, rfl, hm, rfl, hk⟩ := fi_at hf
    simp only [hf, if_true]
    have hp : nth s (m : Int) (k : Int) = (row s (m : Int))[k] := by
      obtain ⟨k', e, hk', e2⟩ := hnth
      obtain rfl : k' = k := by omega
      exact e2
    rw [hp]
    rw [hasN_of hm] at HA
    obtain ⟨ad, cap, c1, hv, hr⟩ := h.at m hm
    obtain ⟨gr, rfl⟩ : ∃ g, ad = some ⟨g, 0, none⟩ := by
      rcases hr.form with ⟨_, e⟩ | ⟨g, c, e, _⟩
      · rw [e] at hk; cases hk
      · injection e with e1; exact ⟨g, e1⟩
    have c0 := h.cell
    obtain ⟨d1, d2⟩ := hr.cell k hk
    have lr : gr < w.heap.size := World.block_lt_of_cell? w _ d1
    have hmi : (m : Int) < (s.ws.length : Int) := by omega
    have hki : (k : Int) < ((row s (m : Int)).length : Int) := by omega
    clear h hr hv hf hp hnth hm
    generalize s.ws.length = n at *
    generalize (row s (m : Int))[k] = p at *
    generalize (row s (m : Int)).length = L at *
    obtain ⟨fr, bb⟩ := p
    dsimp only at *
    go_enter Try.func36, Try.ntmps36
    go_wp2_with fail
    refine (unhide HA).mono ?_
    rintro r w1 ⟨rfl, rfl⟩
    have z0 := bx.cell (i := 0) rfl
    have z1 := bx.cell (i := 1) rfl
    have f0 := bx.froz 0
    have f1 := bx.froz 1
    have BX := hide bx
    have KX := hide kx
    have e0 := kx.cell c0 (by simp)
    have e1 := kx.cell c1 (by simp)
    have e2 := kx.cell d1 (by simp)
    have e3 := kx.cell d2 (by simp)
    clear bx kx HA
    generalize w.alloc (.cells #[.int .i64 0, .string ⟨#[]⟩] 79) = V at *
    go_wp2
    have hb := ((unhide BX).set 0 (.int .i64 fr)).set 1 (.string bb)
    have hk := (unhide KX).trans ((Kp.set V w.heap.size 0 (.int .i64 fr)).trans (Kp.set _ w.heap.size 1 (.string bb)) (fun _ hx => Or.inl hx)) (fun x hx => Or.inr (by simp at hx; omega))
    refine bodyPost_ret (v := .tuple #[.agg #[.int .i64 fr, .string bb], .int .i64 0]) ?_ rfl ⟨rfl, hk⟩
    exact results_row_tmp (p := 6) (u := 7) (ty := 79) rfl _ _ w.heap.size 79 #[.int .i64 fr, .string bb] (0, 0) _ rfl hb Try.underlying79 rfl rfl
  · simp only [hf, if_false]
    have hz0 := bx.cell (i := 0) rfl
    have hz1 := bx.cell (i := 1) rfl
    have f0 := bx.froz 0
    have f1 := bx.froz 1
    have BX := hide bx
    have KX := hide kx
    by_cases ht : hasN s.ws.length t = true
    · rw [ht] at HA
      obtain ⟨m, rfl, hm⟩ := hasN_nat ht
      have hnk : hasN (row s (m : Int)).length i = false := by
        cases hh : hasN (row s (m : Int)).length i with
        | false => rfl
        | true => exfalso; apply hf; unfold fiE; rw [ht, hh]; rfl
      have hE : fiE s (m : Int) i = 5 := by unfold fiE; rw [ht, hnk]; rfl
      rw [hE]
      obtain ⟨ad, cap, c1, hv, hr⟩ := h.at m hm
      have c0 := h.cell
      have hmi : (m : Int) < (s.ws.length : Int) := by omega
      have hni : ¬ (0 ≤ i ∧ i < ((row s (m : Int)).length : Int)) := fun hh => by rw [hasN_iff.2 hh] at hnk; cases hnk
      have e0 := kx.cell c0 (by simp)
      have e1 := kx.cell c1 (by simp)
      clear h hr hv hf hm hE hnk ht bx kx
      generalize s.ws.length = n at *
      generalize (row s (m : Int)).length = L at *
      by_cases h1 : i < 0
      · go_enter Try.func36, Try.ntmps36
        go_wp2_with fail
        refine (unhide HA).mono ?_
        rintro r w1 ⟨rfl, rfl⟩
        clear HA
        generalize w.alloc (.cells #[.int .i64 0, .string ⟨#[]⟩] 79) = V at *
        go_wp2
        have hb := ((unhide BX).set 0 (.int .i64 0)).set 1 (.string ⟨#[]⟩)
        have hk := (unhide KX).trans ((Kp.set V w.heap.size 0 (.int .i64 0)).trans (Kp.set _ w.heap.size 1 (.string ⟨#[]⟩)) (fun _ hx => Or.inl hx)) (fun x hx => Or.inr (by simp at hx; omega))
        refine bodyPost_ret (v := .tuple #[.agg #[.int .i64 0, .string ⟨#[]⟩], .int .i64 5]) ?_ rfl ⟨rfl, hk⟩
        exact results_row_tmp (p := 6) (u := 7) (ty := 79) rfl _ _ w.heap.size 79 #[.int .i64 0, .string ⟨#[]⟩] (0, 0) _ rfl hb Try.underlying79 rfl rfl
      · have h2 : (L : Int) ≤ i := by omega
        go_enter Try.func36, Try.ntmps36
        go_wp2_with fail
        refine (unhide HA).mono ?_
        rintro r w1 ⟨rfl, rfl⟩
        clear HA
        generalize w.alloc (.cells #[.int .i64 0, .string ⟨#[]⟩] 79) = V at *
        go_wp2
        have hb := ((unhide BX).set 0 (.int .i64 0)).set 1 (.string ⟨#[]⟩)
        have hk := (unhide KX).trans ((Kp.set V w.heap.size 0 (.int .i64 0)).trans (Kp.set _ w.heap.size 1 (.string ⟨#[]⟩)) (fun _ hx => Or.inl hx)) (fun x hx => Or.inr (by simp at hx; omega))
        refine bodyPost_ret (v := .tuple #[.agg #[.int .i64 0, .string ⟨#[]⟩], .int .i64 5]) ?_ rfl ⟨rfl, hk⟩
        exact results_row_tmp (p := 6) (u := 7) (ty := 79) rfl _ _ w.heap.size 79 #[.int .i64 0, .string ⟨#[]⟩] (0, 0) _ rfl hb Try.underlying79 rfl rfl
    · have ht0 : hasN s.ws.length t = false := by simpa using ht
      rw [ht0] at HA
      have hE : fiE s t i = 180 := by unfold fiE; rw [ht0]; rfl
      rw [hE]
      clear h hf ht hE ht0 bx kx
      go_enter Try.func36, Try.ntmps36
      go_wp2_with fail
      refine (unhide HA).mono ?_
      rintro r w1 ⟨rfl, rfl⟩
      clear HA
      generalize w.alloc (.cells #[.int .i64 0, .string ⟨#[]⟩] 79) = V at *
      go_wp2
      have hb := ((unhide BX).set 0 (.int .i64 0)).set 1 (.string ⟨#[]⟩)
      have hk := (unhide KX).trans ((Kp.set V w.heap.size 0 (.int .i64 0)).trans (Kp.set _ w.heap.size 1 (.string ⟨#[]⟩)) (fun _ hx => Or.inl hx)) (fun x hx => Or.inr (by simp at hx; omega))
      refine bodyPost_ret (v := .tuple #[.agg #[.int .i64 0, .string ⟨#[]⟩], .int .i64 180]) ?_ rfl ⟨rfl, hk⟩
      exact results_row_tmp (p := 6) (u := 7) (ty := 79) rfl _ _ w.heap.size 79 #[.int .i64 0, .string ⟨#[]⟩] (0, 0) _ rfl hb Try.underlying79 rfl rfl
theorem RpRow.emp (w : World) : RpRow (w.alloc (.cells #[] 79)) (.slice (some ⟨w.heap.size, 0, none⟩) 0 0) [] :=
  ⟨rfl, Or.inr ⟨w.heap.size, 0, #[], rfl, Nat.zero_le _, CBox.new w _ _, Nat.le_refl _, by unfold maxLen; omega, rfl, rfl⟩⟩
/-- A row's cells from one of its elements on. -/
theorem RpRow.from {w : World} {g n cap : Nat} {l : List Pk} (h : RpRow w (.slice (some ⟨g, 0, none⟩) n cap) l) (o k : Nat) : ∀ j u, (pkC ((l.drop o).take k))[j]? = some u → w.cell? ⟨g, o * 2 + j, none⟩ = some u := fun j u hj => by
  have kc := World.ownsRow.cells h (g := g) rfl
  rcases Nat.lt_or_ge o l.length with ho | ho
  · have e : pkC l = pkC (l.take o) ++ pkC ((l.drop o).take k) ++ pkC ((l.drop o).drop k) := by rw [List.append_assoc, ← pkC_append, List.take_append_drop, ← pkC_append, List.take_append_drop]
    have hA : (pkC (l.take o)).length = o * 2 := by rw [pkC_len, List.length_take]; congr 1; omega
    have hjl := (List.getElem?_eq_some_iff.1 hj).1
    have := kc (o * 2 + j) u (by
      rw [e, List.getElem?_append_left (by rw [List.length_append]; omega), List.getElem?_append_right (by omega), hA, Nat.add_sub_cancel_left]
      exact hj)
    rwa [Go.WideShapes.add_plain, Nat.zero_add] at this
  · rw [List.drop_of_length_le ho] at hj
    simp [pkC] at hj
set_option maxHeartbeats 4000000 in
set_option maxRecDepth 100000 in
theorem rwithout_any (g cap : Nat) (l : List Pk) (i : Nat) (w : World) (h : RpRow w (.slice (some ⟨g, 0, none⟩) l.length cap) l) (hi : i < l.length) (hl : l.length ≤ 4096) :
    Calls Try.prog 37 #[.slice (some ⟨g, 0, none⟩) l.length cap, .int .i64 (i : Int)] w fun e w' => ∃ v, e = .returned v ∧ RpRow w' v (l.eraseIdx i) ∧ Kp [] w w' := by
  obtain ⟨i0, hi0, hz0, hz1, hz2⟩ := info_parts info_rp
  have hcap : l.length ≤ cap := by
    rcases h.form with ⟨e, _⟩ | ⟨g', c, e, h1, h2⟩
    · cases e
    · injection e with _ _ e3; subst e3; exact h1
  have hcm : cap ≤ 9223372036854775807 := by
    rcases h.form with ⟨e, _⟩ | ⟨g', c, e, h1, h2⟩
    · cases e
    · injection e with _ _ e3; subst e3; exact h2
  obtain ⟨V, hV⟩ : ∃ V, V = w.drew := ⟨_, rfl⟩
  have hkV : Kp [] w V := by rw [hV]; exact Kp.drew w
  have hk0 := Kp.alloc V (.cells #[] 79)
  have hVr := h.kp hkV (by simp)
  have K0 := hide hk0
  have O0 : Hid ((V.alloc (.cells #[] 79)).ownsRow 0 79 2 (.slice (some ⟨V.heap.size, 0, none⟩) 0 0) 0 (pkC [])) := hide (RpRow.emp V)
  have SR1 : Hid (∀ a, some (⟨g, 0, none⟩ : Addr) = some a → ∀ j u, (pkC (l.take i))[j]? = some u → (V.alloc (.cells #[] 79)).cell? (a.add j) = some u) := hide (fun a ha j u hj => by
    injection ha with ha
    subst ha
    rw [Go.WideShapes.add_plain]
    have := (hVr.kp hk0 (by simp)).from 0 i j u (by simpa using hj)
    simpa using this)
  have LN1 : Hid ((pkC (l.take i)).length = i * 2) := hide (by rw [pkC_len, List.length_take]; congr 1; omega)
  have LN2 : Hid ((pkC (l.drop (i + 1))).length = (l.length - (i + 1)) * 2) := hide (by rw [pkC_len, List.length_drop])
  obtain ⟨A, hA, hsp, SR2⟩ : ∃ A : Addr, (if cap = i + 1 then some (⟨g, 0, none⟩ : Addr) else some ⟨g, (i + 1) * 2, none⟩) = some A ∧ A.spot = none ∧ Hid (∀ W, Kp [] V W → ∀ j u, (pkC (l.drop (i + 1)))[j]? = some u → W.cell? (A.add j) = some u) := by
    by_cases hc : cap = i + 1
    · refine ⟨⟨g, 0, none⟩, by simp [hc], rfl, hide (fun W hW j u hj => ?_)⟩
      have h0 : (pkC (l.drop (i + 1))).length = 0 := by rw [unhide LN2]; omega
      rw [List.length_eq_zero_iff.1 h0] at hj
      simp at hj
    · refine ⟨⟨g, (i + 1) * 2, none⟩, by simp [hc], rfl, hide (fun W hW j u hj => ?_)⟩
      rw [Go.WideShapes.add_plain]
      exact (hVr.kp hW (by simp)).from (i + 1) l.length j u (by rw [List.take_of_length_le (by rw [List.length_drop]; omega)]; exact hj)
  have HA := hide hA
  have SPT := hide hsp
  have FIN : Hid (∀ g6 cap6 w6, w6.ownsRow 0 79 2 (.slice (some ⟨g6, 0, none⟩) (l.length - 1) cap6) (l.length - 1) (pkC [] ++ pkC (l.take i) ++ pkC (l.drop (i + 1))) → Kp [] V w6 → RpRow w6 (.slice (some ⟨g6, 0, none⟩) (l.length - 1) cap6) (l.eraseIdx i) ∧ Kp [] w w6) := hide (fun g6 cap6 w6 ho hk => by
    refine ⟨?_, kp_tr hkV hk⟩
    have e : l.eraseIdx i = l.take i ++ l.drop (i + 1) := List.eraseIdx_eq_take_drop_succ l i
    have e2 : (l.eraseIdx i).length = l.length - 1 := List.length_eraseIdx_of_lt hi
    unfold RpRow
    rw [e2, e, pkC_append]
    exact ho)
  have hil : (i : Int) ≤ (l.length : Int) := by omega
  have hil1 : (i : Int) + 1 ≤ (l.length : Int) := by omega
  have hic : i ≤ cap := by omega
  have h0i : (0 : Int) ≤ (i : Int) + 1 := by omega
  have hwi : IntKind.i64.wrap ((i : Int) + 1) = (i : Int) + 1 := by rw [IntKind.wrap_i64]; omega
  clear hA hsp h hVr hkV hk0
  go_enter Try.func37, Try.ntmps37
  go_upto_region 1 with fail
  refine wp_region_late (fun _ => True) 10 (by kernel_rfl) ?_
  rw [← hV]
  clear hV
  show wpAnyL _ _ _ _ _ _ 11 (Array.replicate 11 false) _ _
  refine wpAnyL_take3 (i := 1) (oi := { dst := some 6, op := Op.move (Operand.tmp 0), type := 77, pos := "ref.go:71", after := #[], guard := none }) (v := ?_) rfl (by kernel_rfl) (by kernel_rfl) (by kernel_rfl) (by kernel_rfl) (fun _ _ _ h => h) (Or.inl ⟨by rfl, ?_⟩) trivial ?_
  rotate_left 1
  · intro w0 hSw
    (try dsimp only at hSw)
    go_simp
    (try with_reducible rfl)
  try simp only [Act.put, List.setIfInBounds_toArray, List.set_cons_zero, List.set_cons_succ]
  refine wpAnyL_take3 (i := 2) (oi := { dst := some 7, op := Op.move (Operand.tmp 1), type := 3, pos := "ref.go:71", after := #[], guard := none }) (v := ?_) rfl (by kernel_rfl) (by kernel_rfl) (by kernel_rfl) (by kernel_rfl) (fun _ _ _ h => h) (Or.inl ⟨by rfl, ?_⟩) trivial ?_
  rotate_left 1
  · intro w0 hSw
    (try dsimp only at hSw)
    go_simp
    (try with_reducible rfl)
  try simp only [Act.put, List.setIfInBounds_toArray, List.set_cons_zero, List.set_cons_succ]
  refine wpAnyL_take3 (i := 3) (oi := { dst := some 8, op := Op.slice 77 (Operand.tmp 6) none (some (Operand.tmp 7)) none, type := 77, pos := "ref.go:71", after := #[{ on := 1, ground := Ground.data }, { on := 2, ground := Ground.data }], guard := none }) (v := ?_) rfl (by kernel_rfl) (by kernel_rfl) (by kernel_rfl) (by kernel_rfl) (fun _ _ _ h => h) (Or.inl ⟨by rfl, ?_⟩) trivial ?_
  rotate_left 1
  · intro w0 hSw
    (try dsimp only at hSw)
    go_simp
    (try with_reducible rfl)
  try simp only [Act.put, List.setIfInBounds_toArray, List.set_cons_zero, List.set_cons_succ]
  refine wpAnyL_take3 (i := 5) (oi := { dst := some 10, op := Op.move (Operand.tmp 0), type := 77, pos := "ref.go:71", after := #[], guard := none }) (v := ?_) rfl (by kernel_rfl) (by kernel_rfl) (by kernel_rfl) (by kernel_rfl) (fun _ _ _ h => h) (Or.inl ⟨by rfl, ?_⟩) trivial ?_
  rotate_left 1
  · intro w0 hSw
    (try dsimp only at hSw)
    go_simp
    (try with_reducible rfl)
  try simp only [Act.put, List.setIfInBounds_toArray, List.set_cons_zero, List.set_cons_succ]
  refine wpAnyL_take3 (i := 6) (oi := { dst := some 11, op := Op.move (Operand.tmp 1), type := 3, pos := "ref.go:71", after := #[], guard := none }) (v := ?_) rfl (by kernel_rfl) (by kernel_rfl) (by kernel_rfl) (by kernel_rfl) (fun _ _ _ h => h) (Or.inl ⟨by rfl, ?_⟩) trivial ?_
  rotate_left 1
  · intro w0 hSw
    (try dsimp only at hSw)
    go_simp
    (try with_reducible rfl)
  try simp only [Act.put, List.setIfInBounds_toArray, List.set_cons_zero, List.set_cons_succ]
  refine wpAnyL_take3 (i := 7) (oi := { dst := some 12, op := Op.binOp BinOp.add 3 (Operand.tmp 11) (Operand.const (Value.int IntKind.i64 1)) 3, type := 3, pos := "ref.go:71", after := #[{ on := 6, ground := Ground.data }], guard := none }) (v := ?_) rfl (by kernel_rfl) (by kernel_rfl) (by kernel_rfl) (by kernel_rfl) (fun _ _ _ h => h) (Or.inl ⟨by rfl, ?_⟩) trivial ?_
  rotate_left 1
  · intro w0 hSw
    (try dsimp only at hSw)
    go_simp
    (try with_reducible rfl)
  try simp only [Act.put, List.setIfInBounds_toArray, List.set_cons_zero, List.set_cons_succ]
  refine wpAnyL_take3 (i := 8) (oi := { dst := some 13, op := Op.slice 77 (Operand.tmp 10) (some (Operand.tmp 12)) none none, type := 77, pos := "ref.go:71", after := #[{ on := 5, ground := Ground.data }, { on := 7, ground := Ground.data }], guard := none }) (v := ?_) rfl (by kernel_rfl) (by kernel_rfl) (by kernel_rfl) (by kernel_rfl) (fun _ _ _ h => h) (Or.inl ⟨by rfl, ?_⟩) trivial ?_
  rotate_left 1
  · intro w0 hSw
    (try dsimp only at hSw)
    go_simp
    (try with_reducible rfl)
  try simp only [Act.put, List.setIfInBounds_toArray, List.set_cons_zero, List.set_cons_succ]
  refine wpAnyL_one (i := 0) (o := { dst := some 5, op := Op.buildSlice 77 0 #[], type := 77, pos := "ref.go:71", after := #[], guard := none }) rfl (by kernel_rfl) (fun K hK => ?_)
  go_simp
  refine hK _ _ (Or.inr trivial) ?_
  clear hK K
  try simp only [Act.put, List.setIfInBounds_toArray, List.set_cons_zero, List.set_cons_succ]
  refine wpAnyL_one (i := 4) (o := { dst := some 9, op := Op.call { callee := Callee.builtin Builtin.append, args := #[Operand.tmp 5, Operand.tmp 8], argTypes := #[77, 77] }, type := 77, pos := "ref.go:71", after := #[{ on := 0, ground := Ground.data }, { on := 3, ground := Ground.data }], guard := none }) rfl (by kernel_rfl) (fun K hK => ?_)
  refine step_app_any rfl (.tmp 5) (.tmp 8) 77 rfl 79 i0 (.agg #[.int .i64 0, .string ⟨#[]⟩]) 2 24 Try.underlying77 hi0 hz0 hz1 hz2 rfl (by decide) rfl (unhide O0) (some ⟨g, 0, none⟩) i cap (pkC (l.take i)) rfl (unhide LN1) (fun h => by cases h) (fun a ha => by injection ha with ha; subst ha; rfl) (unhide SR1) (pkC_cell _) (by unfold maxLen; omega) (by omega) i (Nat.zero_add _) ?_
  intro g5 cap5 w5 own5 gr5 at5
  have O5 := hide own5
  have k5 := kp_gr (unhide K0) gr5 (Nat.le_refl _)
  have SR5 := hide (unhide SR2 w5 k5)
  have hg5 : V.heap.size ≤ g5 := by rcases at5 with rfl | rfl <;> (try simp) <;> omega
  have K5 := hide k5
  refine hK _ _ (Or.inr trivial) ?_
  clear hK K
  try simp only [Act.put, List.setIfInBounds_toArray, List.set_cons_zero, List.set_cons_succ]
  refine wpAnyL_one (i := 9) (o := { dst := some 14, op := Op.call { callee := Callee.builtin Builtin.append, args := #[Operand.tmp 9, Operand.tmp 13], argTypes := #[77, 77] }, type := 77, pos := "ref.go:71", after := #[{ on := 4, ground := Ground.data }, { on := 8, ground := Ground.data }, { on := 4, ground := Ground.chain }], guard := none }) rfl (by kernel_rfl) (fun K hK => ?_)
  refine step_app_any rfl (.tmp 9) (.tmp 13) 77 rfl 79 i0 (.agg #[.int .i64 0, .string ⟨#[]⟩]) 2 24 Try.underlying77 hi0 hz0 hz1 hz2 rfl (by decide) rfl (unhide O5) (some A) (l.length - (i + 1)) (cap - (i + 1)) (pkC (l.drop (i + 1))) (by simp [Act.eval]; exact unhide HA) (unhide LN2) (fun h => by cases h) (fun a ha => by injection ha with ha; subst ha; exact unhide SPT) (fun a ha => by injection ha with ha; subst ha; exact unhide SR5) (pkC_cell _) (by unfold maxLen; omega) (by omega) (l.length - 1) (by omega) ?_
  intro g6 cap6 w6 own6 gr6 at6
  have FN := hide (unhide FIN g6 cap6 w6 own6 (kp_gr (unhide K5) gr6 hg5))
  refine hK _ _ (Or.inr trivial) ?_
  clear hK K
  try simp only [Act.put, List.setIfInBounds_toArray, List.set_cons_zero, List.set_cons_succ]
  refine wpAnyL_one (i := 10) (o := { dst := some 4, op := Op.assign (Operand.tmp 14), type := 77, pos := "ref.go:71", after := #[{ on := 9, ground := Ground.data }, { on := 9, ground := Ground.chain }, { on := 0, ground := Ground.phase }, { on := 1, ground := Ground.phase }, { on := 2, ground := Ground.phase }, { on := 3, ground := Ground.phase }, { on := 4, ground := Ground.phase }, { on := 5, ground := Ground.phase }, { on := 6, ground := Ground.phase }, { on := 7, ground := Ground.phase }, { on := 8, ground := Ground.phase }, { on := 9, ground := Ground.phase }], guard := none }) rfl (by kernel_rfl) (fun K hK => ?_)
  go_simp
  refine hK _ _ (Or.inl rfl) ?_
  clear hK K
  try simp only [Act.put, List.setIfInBounds_toArray, List.set_cons_zero, List.set_cons_succ]
  refine wpAnyL_done (by kernel_rfl) ?_ _
  go_wp2
  all_goals (go_ret; exact ⟨_, rfl, (unhide FN).1, (unhide FN).2⟩)
end Go.Proofs.Ytledoopfffhigaa
