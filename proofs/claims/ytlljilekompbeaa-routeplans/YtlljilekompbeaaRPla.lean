/-
  RoutePlans: the walk.
-/
import Derived.Test.YtlljilekompbeaaRKey
namespace Go.Proofs.Ytlljilekompbeaa
open Go.RowKit

theorem TwP.cells {w wr : World} {q1 q2 t : Nat} {G S M : Int} (h : TwP w q1 q2 t G S M wr) : wr.cell? ⟨q1, 0, none⟩ = some (.int .i64 G) ∧ wr.cell? ⟨q1, 1, none⟩ = some (.int .i64 S) ∧ wr.cell? ⟨q1, 2, none⟩ = some (.int .i64 M) ∧ wr.cell? ⟨q2, 0, none⟩ = some (.int .i64 G) ∧ wr.cell? ⟨q2, 1, none⟩ = some (.int .i64 S) ∧ wr.cell? ⟨q2, 2, none⟩ = some (.int .i64 M) :=
  ⟨h.x.cells.1, h.x.cells.2.1, h.x.cells.2.2, h.p.cells.1, h.p.cells.2.1, h.p.cells.2.2⟩
/-- What both say of a plan, and how many tasks and channels it has. -/
theorem plan_both (g s m : Int) : ∃ (T N : Nat) (B : Bool), T ≤ 100 ∧ N ≤ 40016 ∧ (∀ w, Calls Try.prog 8 #[.agg #[.int .i64 g, .int .i64 s, .int .i64 m]] w fun r w' => r = .returned (.int .i64 (if B then 0 else 1)) ∧ Kp [] w w') ∧ (∀ w, Calls Try.prog 9 #[.agg #[.int .i64 g, .int .i64 s, .int .i64 m]] w fun r w' => r = .returned (.bool B) ∧ Kp [] w w') ∧
    (∀ w, Calls Try.prog 10 #[.agg #[.int .i64 g, .int .i64 s, .int .i64 m]] w fun r w' => r = .returned (.int .i64 (T : Int)) ∧ Kp [] w w') ∧ (∀ w, Calls Try.prog 11 #[.agg #[.int .i64 g, .int .i64 s, .int .i64 m]] w fun r w' => r = .returned (.int .i64 (T : Int)) ∧ Kp [] w w') ∧
    (∀ w, Calls Try.prog 12 #[.agg #[.int .i64 g, .int .i64 s, .int .i64 m]] w fun r w' => r = .returned (.int .i64 (N : Int)) ∧ Kp [] w w') ∧ (∀ w, Calls Try.prog 13 #[.agg #[.int .i64 g, .int .i64 s, .int .i64 m]] w fun r w' => ∃ ad cap, r = .returned (.slice ad N cap) ∧ Kp [] w w') := by
  cases h : mayP g s m with
  | false =>
    refine ⟨0, 0, false, by omega, by omega, fun w => ?_, fun w => ?_, fun w => tasks_no g s m w h, fun w => refTasks_no g s m w h, fun w => chans_no g s m w h, fun w => ?_⟩
    · have := pcheck_any g s m w
      unfold chP at this
      rw [h] at this
      exact this
    · have := refMayP_any g s m w
      rw [h] at this
      exact this
    · exact (refAll_no g s m w h).mono fun _ _ ⟨h1, h2⟩ => ⟨none, 0, h1, h2⟩
  | true =>
    obtain ⟨G, S, M, rfl, rfl, rfl, hm⟩ := mayP_nat h
    have h1 := hm.s2
    have h2 := hm.gm.t3
    have h3 := mul_lt_small S M (by omega) (by omega)
    refine ⟨S + M + 1, S * M + M, true, by omega, by omega, fun w => ?_, fun w => ?_, fun w => tasks_ok G S M w hm, fun w => refTasks_ok G S M w hm, fun w => chans_ok G S M w hm, fun w => ?_⟩
    · have := pcheck_any (G : Int) (S : Int) (M : Int) w
      unfold chP at this
      rw [h] at this
      exact this
    · have := refMayP_any (G : Int) (S : Int) (M : Int) w
      rw [h] at this
      exact this
    · exact (refAll_ok G S M w hm).mono fun _ _ ⟨v, h1, h2, h3⟩ => by
        obtain ⟨ad, cap, rfl, _⟩ := h2.at
        exact ⟨ad, cap, h1, h3⟩
set_option maxHeartbeats 2000000 in
set_option maxRecDepth 100000 in
theorem rpla_walk (g s m : Int) (w : World) :
    Calls Try.prog 3 #[.int .i64 g, .int .i64 s, .int .i64 m] w fun e w' => e = .returned (.bool true) ∧ Below w.heap.size w w' := by
  obtain ⟨T, N, B, hT, hN, p1, p2, p3, p4, p5, p6⟩ := plan_both g s m
  have CK := hide p1
  have MY := hide p2
  have TK := hide p3
  have TK' := hide p4
  have CH := hide p5
  have AL := hide p6
  have WK := hide (fun W => rtWorks_any W)
  have KB := hide (fun t => kind_both g s m t)
  have IB := hide (fun t => ins_both g s m t)
  have OB := hide (fun t => outs_both g s m t)
  clear p1 p2 p3 p4 p5 p6
  go_enter Try.func3, Try.ntmps3
  go_upto_region 2 with fail
  have HS : Hid (TwP w (w.heap.size + 1) w.heap.size 24 g s m ((w.alloc (.cells #[.int .i64 g, .int .i64 s, .int .i64 m] 23)).alloc (.cells #[.int .i64 g, .int .i64 s, .int .i64 m] 24)).drew) := hide ⟨kp_tr (Kp.alloc _ _) (kp_tr (Kp.alloc _ _) (Kp.drew _)), two_b _ _ _, two_a _ _ _⟩
  generalize hW : (w.alloc (.cells #[.int .i64 g, .int .i64 s, .int .i64 m] 23)).alloc (.cells #[.int .i64 g, .int .i64 s, .int .i64 m] 24) = w1 at *
  clear hW
  generalize w.heap.size + 1 = q1 at *
  generalize hq : w.heap.size = q2 at *
  have HQ := hide hq
  clear hq
  go_cut [60] (fun a wc => a = .bool false ∧ Hid (TwP w q1 q2 24 g s m wc))
  case first =>
    cases B with
    | false =>
      simp only [Bool.false_eq_true, if_false] at CK
      go_region_held3 (fun W => W.cell? ⟨q1, 0, none⟩ = some (.int .i64 g) ∧ W.cell? ⟨q1, 1, none⟩ = some (.int .i64 s) ∧ W.cell? ⟨q1, 2, none⟩ = some (.int .i64 m) ∧ W.cell? ⟨q2, 0, none⟩ = some (.int .i64 g) ∧ W.cell? ⟨q2, 1, none⟩ = some (.int .i64 s) ∧ W.cell? ⟨q2, 2, none⟩ = some (.int .i64 m))
        (exact TwP.cells (unhide (by assumption)))
        (first
          | (go_at_call 8; refine (unhide CK _).mono ?_; rintro r wk ⟨rfl, hkk⟩; have HSk := hide (TwP.next (unhide (by assumption)) hkk); clear hkk)
          | (go_at_call 9; refine (unhide MY _).mono ?_; rintro r wk ⟨rfl, hkk⟩; have HSk := hide (TwP.next (unhide (by assumption)) hkk); clear hkk)
          | (go_at_call 10; refine (unhide TK _).mono ?_; rintro r wk ⟨rfl, hkk⟩; have HSk := hide (TwP.next (unhide (by assumption)) hkk); clear hkk)
          | (go_at_call 11; refine (unhide TK' _).mono ?_; rintro r wk ⟨rfl, hkk⟩; have HSk := hide (TwP.next (unhide (by assumption)) hkk); clear hkk)
          | (go_at_call 12; refine (unhide CH _).mono ?_; rintro r wk ⟨rfl, hkk⟩; have HSk := hide (TwP.next (unhide (by assumption)) hkk); clear hkk)
          | (go_at_call 13; refine (unhide AL _).mono ?_; rintro r wk ⟨ad, cap, rfl, hkk⟩; have HSk := hide (TwP.next (unhide (by assumption)) hkk); clear hkk))
      go_wp2
      go_meet
      exact ⟨rfl, by assumption⟩
    | true =>
      simp only [if_true] at CK
      refine wp_region_held_drew (S := fun W => W.cell? ⟨q1, 0, none⟩ = some (.int .i64 g) ∧ W.cell? ⟨q1, 1, none⟩ = some (.int .i64 s) ∧ W.cell? ⟨q1, 2, none⟩ = some (.int .i64 m) ∧ W.cell? ⟨q2, 0, none⟩ = some (.int .i64 g) ∧ W.cell? ⟨q2, 1, none⟩ = some (.int .i64 s) ∧ W.cell? ⟨q2, 2, none⟩ = some (.int .i64 m)) (by kernel_rfl) (TwP.cells (unhide (by assumption))) (fun hHeld => ?_)
      show wpAnyH _ _ _ _ _ 31 (Array.replicate 31 false) _ _
      refine wpAnyH_take (i := 0) (oi := { dst := some 30, op := Op.load 23 (Operand.tmp 7), type := 23, pos := "law.go:14", after := #[], guard := none }) (v := ?_) rfl (by kernel_rfl) (by kernel_rfl) (by kernel_rfl) (fun _ _ _ h => h) (Or.inl ⟨by rfl, ?_⟩) (by assumption) ?_
      rotate_left 1
      · intro w0 hSw
        (try dsimp only at hSw)
        go_simp
        (try with_reducible rfl)
      try simp only [Act.put, List.setIfInBounds_toArray, List.set_cons_zero, List.set_cons_succ]
      refine wpAnyH_take (i := 3) (oi := { dst := some 33, op := Op.load 24 (Operand.tmp 8), type := 24, pos := "law.go:14", after := #[], guard := none }) (v := ?_) rfl (by kernel_rfl) (by kernel_rfl) (by kernel_rfl) (fun _ _ _ h => h) (Or.inl ⟨by rfl, ?_⟩) (by assumption) ?_
      rotate_left 1
      · intro w0 hSw
        (try dsimp only at hSw)
        go_simp
        (try with_reducible rfl)
      try simp only [Act.put, List.setIfInBounds_toArray, List.set_cons_zero, List.set_cons_succ]
      refine wpAnyH_ready (rs := [1]) (by kernel_rfl) (by simp) ?_
      refine AllReadyH.cons (o := { dst := some 31, op := Op.call { callee := Callee.value (Operand.func 8), args := #[Operand.tmp 30], argTypes := #[23] }, type := 25, pos := "law.go:14", after := #[{ on := 0, ground := Ground.data }], guard := none }) rfl (fun K hK => ?_) AllReadyH.nil
      go_simp
      go_at_call 8
      refine (unhide CK _).mono ?_
      rintro r wk ⟨rfl, hkk⟩
      have HSk := hide (TwP.next (unhide (by assumption)) hkk)
      clear hkk
      refine hK.out _ _ ?_ (fun hHeld => ?_)
      · exact TwP.cells (unhide (by assumption))
      clear hK K
      try simp only [Act.put, List.setIfInBounds_toArray, List.set_cons_zero, List.set_cons_succ]
      refine wpAnyH_take (i := 2) (oi := { dst := some 32, op := Op.binOp BinOp.eql 25 (Operand.tmp 31) (Operand.const (Value.int IntKind.i64 0)) 25, type := 4, pos := "law.go:14", after := #[{ on := 1, ground := Ground.data }], guard := none }) (v := ?_) rfl (by kernel_rfl) (by kernel_rfl) (by kernel_rfl) (fun _ _ _ h => h) (Or.inl ⟨by rfl, ?_⟩) (by assumption) ?_
      rotate_left 1
      · intro w0 hSw
        (try dsimp only at hSw)
        go_simp
        (try with_reducible rfl)
      try simp only [Act.put, List.setIfInBounds_toArray, List.set_cons_zero, List.set_cons_succ]
      refine wpAnyH_ready (rs := [4]) (by kernel_rfl) (by simp) ?_
      refine AllReadyH.cons (o := { dst := some 34, op := Op.call { callee := Callee.value (Operand.func 9), args := #[Operand.tmp 33], argTypes := #[24] }, type := 4, pos := "law.go:14", after := #[{ on := 3, ground := Ground.data }, { on := 1, ground := Ground.chain }], guard := none }) rfl (fun K hK => ?_) AllReadyH.nil
      go_simp
      go_at_call 9
      refine (unhide MY _).mono ?_
      rintro r wk ⟨rfl, hkk⟩
      have HSk := hide (TwP.next (unhide (by assumption)) hkk)
      clear hkk
      refine hK.out _ _ ?_ (fun hHeld => ?_)
      · exact TwP.cells (unhide (by assumption))
      clear hK K
      try simp only [Act.put, List.setIfInBounds_toArray, List.set_cons_zero, List.set_cons_succ]
      refine wpAnyH_take (i := 5) (oi := { dst := some 35, op := Op.binOp BinOp.neq 4 (Operand.tmp 32) (Operand.tmp 34) 4, type := 4, pos := "law.go:14", after := #[{ on := 2, ground := Ground.data }, { on := 4, ground := Ground.data }], guard := none }) (v := ?_) rfl (by kernel_rfl) (by kernel_rfl) (by kernel_rfl) (fun _ _ _ h => h) (Or.inl ⟨by rfl, ?_⟩) (by assumption) ?_
      rotate_left 1
      · intro w0 hSw
        (try dsimp only at hSw)
        go_simp
        (try with_reducible rfl)
      try simp only [Act.put, List.setIfInBounds_toArray, List.set_cons_zero, List.set_cons_succ]
      refine wpAnyH_take (i := 6) (oi := { dst := some 36, op := Op.move (Operand.tmp 35), type := 4, pos := "law.go:14", after := #[{ on := 5, ground := Ground.data }, { on := 4, ground := Ground.chain }], guard := none }) (v := ?_) rfl (by kernel_rfl) (by kernel_rfl) (by kernel_rfl) (fun _ _ _ h => h) (Or.inl ⟨by rfl, ?_⟩) (by assumption) ?_
      rotate_left 1
      · intro w0 hSw
        (try dsimp only at hSw)
        go_simp
        (try with_reducible rfl)
      try simp only [Act.put, List.setIfInBounds_toArray, List.set_cons_zero, List.set_cons_succ]
      refine wpAnyH_take (i := 7) (oi := { dst := some 37, op := Op.load 23 (Operand.tmp 7), type := 23, pos := "law.go:14", after := #[{ on := 6, ground := Ground.guard }], guard := some (6, false) }) (v := ?_) rfl (by kernel_rfl) (by kernel_rfl) (by kernel_rfl) (fun _ _ _ h => h) (Or.inl ⟨by rfl, ?_⟩) (by assumption) ?_
      rotate_left 1
      · intro w0 hSw
        (try dsimp only at hSw)
        go_simp
        (try with_reducible rfl)
      try simp only [Act.put, List.setIfInBounds_toArray, List.set_cons_zero, List.set_cons_succ]
      refine wpAnyH_ready (rs := [8]) (by kernel_rfl) (by simp) ?_
      refine AllReadyH.cons (o := { dst := some 38, op := Op.call { callee := Callee.value (Operand.func 8), args := #[Operand.tmp 37], argTypes := #[23] }, type := 25, pos := "law.go:14", after := #[{ on := 7, ground := Ground.data }, { on := 6, ground := Ground.chain }, { on := 6, ground := Ground.guard }], guard := some (6, false) }) rfl (fun K hK => ?_) AllReadyH.nil
      go_simp
      go_at_call 8
      refine (unhide CK _).mono ?_
      rintro r wk ⟨rfl, hkk⟩
      have HSk := hide (TwP.next (unhide (by assumption)) hkk)
      clear hkk
      refine hK.out _ _ ?_ (fun hHeld => ?_)
      · exact TwP.cells (unhide (by assumption))
      clear hK K
      try simp only [Act.put, List.setIfInBounds_toArray, List.set_cons_zero, List.set_cons_succ]
      refine wpAnyH_take (i := 9) (oi := { dst := some 39, op := Op.binOp BinOp.neq 25 (Operand.tmp 38) (Operand.const (Value.int IntKind.i64 0)) 25, type := 4, pos := "law.go:14", after := #[{ on := 8, ground := Ground.data }, { on := 6, ground := Ground.guard }], guard := some (6, false) }) (v := ?_) rfl (by kernel_rfl) (by kernel_rfl) (by kernel_rfl) (fun _ _ _ h => h) (Or.inl ⟨by rfl, ?_⟩) (by assumption) ?_
      rotate_left 1
      · intro w0 hSw
        (try dsimp only at hSw)
        go_simp
        (try with_reducible rfl)
      try simp only [Act.put, List.setIfInBounds_toArray, List.set_cons_zero, List.set_cons_succ]
      refine wpAnyH_take (i := 10) (oi := { dst := some 40, op := Op.move (Operand.tmp 39), type := 4, pos := "law.go:14", after := #[{ on := 9, ground := Ground.data }, { on := 8, ground := Ground.chain }, { on := 6, ground := Ground.guard }], guard := some (6, false) }) (v := ?_) rfl (by kernel_rfl) (by kernel_rfl) (by kernel_rfl) (fun _ _ _ h => h) (Or.inl ⟨by rfl, ?_⟩) (by assumption) ?_
      rotate_left 1
      · intro w0 hSw
        (try dsimp only at hSw)
        go_simp
        (try with_reducible rfl)
      try simp only [Act.put, List.setIfInBounds_toArray, List.set_cons_zero, List.set_cons_succ]
      refine wpAnyH_take (i := 11) (oi := { dst := some 41, op := Op.load 23 (Operand.tmp 7), type := 23, pos := "law.go:14", after := #[{ on := 10, ground := Ground.guard }], guard := some (10, true) }) (v := undef) rfl (by kernel_rfl) (by kernel_rfl) (by kernel_rfl) (fun _ _ _ h => h) (Or.inr ⟨by rfl, rfl⟩) (by assumption) ?_
      try simp only [Act.put, List.setIfInBounds_toArray, List.set_cons_zero, List.set_cons_succ]
      refine wpAnyH_take (i := 12) (oi := { dst := some 42, op := Op.call { callee := Callee.value (Operand.func 8), args := #[Operand.tmp 41], argTypes := #[23] }, type := 25, pos := "law.go:14", after := #[{ on := 11, ground := Ground.data }, { on := 10, ground := Ground.chain }, { on := 10, ground := Ground.guard }], guard := some (10, true) }) (v := undef) rfl (by kernel_rfl) (by kernel_rfl) (by kernel_rfl) (fun _ _ _ h => h) (Or.inr ⟨by rfl, rfl⟩) (by assumption) ?_
      try simp only [Act.put, List.setIfInBounds_toArray, List.set_cons_zero, List.set_cons_succ]
      refine wpAnyH_take (i := 13) (oi := { dst := some 43, op := Op.binOp BinOp.neq 25 (Operand.tmp 42) (Operand.const (Value.int IntKind.i64 1)) 25, type := 4, pos := "law.go:14", after := #[{ on := 12, ground := Ground.data }, { on := 10, ground := Ground.guard }], guard := some (10, true) }) (v := undef) rfl (by kernel_rfl) (by kernel_rfl) (by kernel_rfl) (fun _ _ _ h => h) (Or.inr ⟨by rfl, rfl⟩) (by assumption) ?_
      try simp only [Act.put, List.setIfInBounds_toArray, List.set_cons_zero, List.set_cons_succ]
      refine wpAnyH_take (i := 14) (oi := { dst := some 44, op := Op.pick (Operand.tmp 40) (Operand.tmp 43) (Operand.const (Value.bool false)), type := 4, pos := "law.go:14", after := #[{ on := 10, ground := Ground.data }, { on := 13, ground := Ground.data }, { on := 6, ground := Ground.guard }], guard := some (6, false) }) (v := ?_) rfl (by kernel_rfl) (by kernel_rfl) (by kernel_rfl) (fun _ _ _ h => h) (Or.inl ⟨by rfl, ?_⟩) (by assumption) ?_
      rotate_left 1
      · intro w0 hSw
        (try dsimp only at hSw)
        go_simp
        (try with_reducible rfl)
      try simp only [Act.put, List.setIfInBounds_toArray, List.set_cons_zero, List.set_cons_succ]
      refine wpAnyH_take (i := 15) (oi := { dst := some 45, op := Op.pick (Operand.tmp 36) (Operand.const (Value.bool true)) (Operand.tmp 44), type := 4, pos := "law.go:14", after := #[{ on := 6, ground := Ground.data }, { on := 14, ground := Ground.data }], guard := none }) (v := ?_) rfl (by kernel_rfl) (by kernel_rfl) (by kernel_rfl) (fun _ _ _ h => h) (Or.inl ⟨by rfl, ?_⟩) (by assumption) ?_
      rotate_left 1
      · intro w0 hSw
        (try dsimp only at hSw)
        go_simp
        (try with_reducible rfl)
      try simp only [Act.put, List.setIfInBounds_toArray, List.set_cons_zero, List.set_cons_succ]
      refine wpAnyH_take (i := 16) (oi := { dst := some 46, op := Op.move (Operand.tmp 45), type := 4, pos := "law.go:14", after := #[{ on := 15, ground := Ground.data }, { on := 12, ground := Ground.chain }], guard := none }) (v := ?_) rfl (by kernel_rfl) (by kernel_rfl) (by kernel_rfl) (fun _ _ _ h => h) (Or.inl ⟨by rfl, ?_⟩) (by assumption) ?_
      rotate_left 1
      · intro w0 hSw
        (try dsimp only at hSw)
        go_simp
        (try with_reducible rfl)
      try simp only [Act.put, List.setIfInBounds_toArray, List.set_cons_zero, List.set_cons_succ]
      refine wpAnyH_take (i := 17) (oi := { dst := some 47, op := Op.load 23 (Operand.tmp 7), type := 23, pos := "law.go:14", after := #[{ on := 16, ground := Ground.guard }], guard := some (16, false) }) (v := ?_) rfl (by kernel_rfl) (by kernel_rfl) (by kernel_rfl) (fun _ _ _ h => h) (Or.inl ⟨by rfl, ?_⟩) (by assumption) ?_
      rotate_left 1
      · intro w0 hSw
        (try dsimp only at hSw)
        go_simp
        (try with_reducible rfl)
      try simp only [Act.put, List.setIfInBounds_toArray, List.set_cons_zero, List.set_cons_succ]
      refine wpAnyH_take (i := 19) (oi := { dst := some 49, op := Op.load 24 (Operand.tmp 8), type := 24, pos := "law.go:14", after := #[{ on := 16, ground := Ground.guard }], guard := some (16, false) }) (v := ?_) rfl (by kernel_rfl) (by kernel_rfl) (by kernel_rfl) (fun _ _ _ h => h) (Or.inl ⟨by rfl, ?_⟩) (by assumption) ?_
      rotate_left 1
      · intro w0 hSw
        (try dsimp only at hSw)
        go_simp
        (try with_reducible rfl)
      try simp only [Act.put, List.setIfInBounds_toArray, List.set_cons_zero, List.set_cons_succ]
      refine wpAnyH_ready (rs := [18]) (by kernel_rfl) (by simp) ?_
      refine AllReadyH.cons (o := { dst := some 48, op := Op.call { callee := Callee.value (Operand.func 10), args := #[Operand.tmp 47], argTypes := #[23] }, type := 3, pos := "law.go:14", after := #[{ on := 17, ground := Ground.data }, { on := 16, ground := Ground.chain }, { on := 16, ground := Ground.guard }], guard := some (16, false) }) rfl (fun K hK => ?_) AllReadyH.nil
      go_simp
      go_at_call 10
      refine (unhide TK _).mono ?_
      rintro r wk ⟨rfl, hkk⟩
      have HSk := hide (TwP.next (unhide (by assumption)) hkk)
      clear hkk
      refine hK.out _ _ ?_ (fun hHeld => ?_)
      · exact TwP.cells (unhide (by assumption))
      clear hK K
      try simp only [Act.put, List.setIfInBounds_toArray, List.set_cons_zero, List.set_cons_succ]
      refine wpAnyH_ready (rs := [20]) (by kernel_rfl) (by simp) ?_
      refine AllReadyH.cons (o := { dst := some 50, op := Op.call { callee := Callee.value (Operand.func 11), args := #[Operand.tmp 49], argTypes := #[24] }, type := 3, pos := "law.go:14", after := #[{ on := 19, ground := Ground.data }, { on := 18, ground := Ground.chain }, { on := 16, ground := Ground.guard }], guard := some (16, false) }) rfl (fun K hK => ?_) AllReadyH.nil
      go_simp
      go_at_call 11
      refine (unhide TK' _).mono ?_
      rintro r wk ⟨rfl, hkk⟩
      have HSk := hide (TwP.next (unhide (by assumption)) hkk)
      clear hkk
      refine hK.out _ _ ?_ (fun hHeld => ?_)
      · exact TwP.cells (unhide (by assumption))
      clear hK K
      try simp only [Act.put, List.setIfInBounds_toArray, List.set_cons_zero, List.set_cons_succ]
      refine wpAnyH_take (i := 21) (oi := { dst := some 51, op := Op.binOp BinOp.neq 3 (Operand.tmp 48) (Operand.tmp 50) 3, type := 4, pos := "law.go:14", after := #[{ on := 18, ground := Ground.data }, { on := 20, ground := Ground.data }, { on := 16, ground := Ground.guard }], guard := some (16, false) }) (v := ?_) rfl (by kernel_rfl) (by kernel_rfl) (by kernel_rfl) (fun _ _ _ h => h) (Or.inl ⟨by rfl, ?_⟩) (by assumption) ?_
      rotate_left 1
      · intro w0 hSw
        (try dsimp only at hSw)
        go_simp
        (try with_reducible rfl)
      try simp only [Act.put, List.setIfInBounds_toArray, List.set_cons_zero, List.set_cons_succ]
      refine wpAnyH_take (i := 22) (oi := { dst := some 52, op := Op.pick (Operand.tmp 46) (Operand.const (Value.bool true)) (Operand.tmp 51), type := 4, pos := "law.go:14", after := #[{ on := 16, ground := Ground.data }, { on := 21, ground := Ground.data }], guard := none }) (v := ?_) rfl (by kernel_rfl) (by kernel_rfl) (by kernel_rfl) (fun _ _ _ h => h) (Or.inl ⟨by rfl, ?_⟩) (by assumption) ?_
      rotate_left 1
      · intro w0 hSw
        (try dsimp only at hSw)
        go_simp
        (try with_reducible rfl)
      try simp only [Act.put, List.setIfInBounds_toArray, List.set_cons_zero, List.set_cons_succ]
      refine wpAnyH_take (i := 23) (oi := { dst := some 53, op := Op.move (Operand.tmp 52), type := 4, pos := "law.go:14", after := #[{ on := 22, ground := Ground.data }, { on := 20, ground := Ground.chain }], guard := none }) (v := ?_) rfl (by kernel_rfl) (by kernel_rfl) (by kernel_rfl) (fun _ _ _ h => h) (Or.inl ⟨by rfl, ?_⟩) (by assumption) ?_
      rotate_left 1
      · intro w0 hSw
        (try dsimp only at hSw)
        go_simp
        (try with_reducible rfl)
      try simp only [Act.put, List.setIfInBounds_toArray, List.set_cons_zero, List.set_cons_succ]
      refine wpAnyH_take (i := 24) (oi := { dst := some 54, op := Op.load 23 (Operand.tmp 7), type := 23, pos := "law.go:14", after := #[{ on := 23, ground := Ground.guard }], guard := some (23, false) }) (v := ?_) rfl (by kernel_rfl) (by kernel_rfl) (by kernel_rfl) (fun _ _ _ h => h) (Or.inl ⟨by rfl, ?_⟩) (by assumption) ?_
      rotate_left 1
      · intro w0 hSw
        (try dsimp only at hSw)
        go_simp
        (try with_reducible rfl)
      try simp only [Act.put, List.setIfInBounds_toArray, List.set_cons_zero, List.set_cons_succ]
      refine wpAnyH_take (i := 26) (oi := { dst := some 56, op := Op.load 24 (Operand.tmp 8), type := 24, pos := "law.go:14", after := #[{ on := 23, ground := Ground.guard }], guard := some (23, false) }) (v := ?_) rfl (by kernel_rfl) (by kernel_rfl) (by kernel_rfl) (fun _ _ _ h => h) (Or.inl ⟨by rfl, ?_⟩) (by assumption) ?_
      rotate_left 1
      · intro w0 hSw
        (try dsimp only at hSw)
        go_simp
        (try with_reducible rfl)
      try simp only [Act.put, List.setIfInBounds_toArray, List.set_cons_zero, List.set_cons_succ]
      refine wpAnyH_ready (rs := [25]) (by kernel_rfl) (by simp) ?_
      refine AllReadyH.cons (o := { dst := some 55, op := Op.call { callee := Callee.value (Operand.func 12), args := #[Operand.tmp 54], argTypes := #[23] }, type := 3, pos := "law.go:14", after := #[{ on := 24, ground := Ground.data }, { on := 23, ground := Ground.chain }, { on := 23, ground := Ground.guard }], guard := some (23, false) }) rfl (fun K hK => ?_) AllReadyH.nil
      go_simp
      go_at_call 12
      refine (unhide CH _).mono ?_
      rintro r wk ⟨rfl, hkk⟩
      have HSk := hide (TwP.next (unhide (by assumption)) hkk)
      clear hkk
      refine hK.out _ _ ?_ (fun hHeld => ?_)
      · exact TwP.cells (unhide (by assumption))
      clear hK K
      try simp only [Act.put, List.setIfInBounds_toArray, List.set_cons_zero, List.set_cons_succ]
      refine wpAnyH_ready (rs := [27]) (by kernel_rfl) (by simp) ?_
      refine AllReadyH.cons (o := { dst := some 57, op := Op.call { callee := Callee.value (Operand.func 13), args := #[Operand.tmp 56], argTypes := #[24] }, type := 29, pos := "law.go:14", after := #[{ on := 26, ground := Ground.data }, { on := 25, ground := Ground.chain }, { on := 23, ground := Ground.guard }], guard := some (23, false) }) rfl (fun K hK => ?_) AllReadyH.nil
      go_simp
      go_at_call 13
      refine (unhide AL _).mono ?_
      rintro r wk ⟨ad, cap, rfl, hkk⟩
      have HSk := hide (TwP.next (unhide (by assumption)) hkk)
      clear hkk
      refine hK.out _ _ ?_ (fun hHeld => ?_)
      · exact TwP.cells (unhide (by assumption))
      clear hK K
      try simp only [Act.put, List.setIfInBounds_toArray, List.set_cons_zero, List.set_cons_succ]
      refine wpAnyH_take (i := 28) (oi := { dst := some 58, op := Op.call { callee := Callee.builtin Builtin.len, args := #[Operand.tmp 57], argTypes := #[29] }, type := 3, pos := "law.go:14", after := #[{ on := 27, ground := Ground.data }, { on := 23, ground := Ground.guard }], guard := some (23, false) }) (v := ?_) rfl (by kernel_rfl) (by kernel_rfl) (by kernel_rfl) (fun _ _ _ h => h) (Or.inl ⟨by rfl, ?_⟩) (by assumption) ?_
      rotate_left 1
      · intro w0 hSw
        (try dsimp only at hSw)
        go_simp
        (try with_reducible rfl)
      try simp only [Act.put, List.setIfInBounds_toArray, List.set_cons_zero, List.set_cons_succ]
      refine wpAnyH_take (i := 29) (oi := { dst := some 59, op := Op.binOp BinOp.neq 3 (Operand.tmp 55) (Operand.tmp 58) 3, type := 4, pos := "law.go:14", after := #[{ on := 25, ground := Ground.data }, { on := 28, ground := Ground.data }, { on := 23, ground := Ground.guard }], guard := some (23, false) }) (v := ?_) rfl (by kernel_rfl) (by kernel_rfl) (by kernel_rfl) (fun _ _ _ h => h) (Or.inl ⟨by rfl, ?_⟩) (by assumption) ?_
      rotate_left 1
      · intro w0 hSw
        (try dsimp only at hSw)
        go_simp
        (try with_reducible rfl)
      try simp only [Act.put, List.setIfInBounds_toArray, List.set_cons_zero, List.set_cons_succ]
      refine wpAnyH_take (i := 30) (oi := { dst := some 60, op := Op.pick (Operand.tmp 53) (Operand.const (Value.bool true)) (Operand.tmp 59), type := 4, pos := "law.go:14", after := #[{ on := 23, ground := Ground.data }, { on := 29, ground := Ground.data }], guard := none }) (v := ?_) rfl (by kernel_rfl) (by kernel_rfl) (by kernel_rfl) (fun _ _ _ h => h) (Or.inl ⟨by rfl, ?_⟩) (by assumption) ?_
      rotate_left 1
      · intro w0 hSw
        (try dsimp only at hSw)
        go_simp
        (try with_reducible rfl)
      try simp only [Act.put, List.setIfInBounds_toArray, List.set_cons_zero, List.set_cons_succ]
      refine wpAnyH_done (by kernel_rfl) ?_ _
      go_wp2
      go_meet
      exact ⟨rfl, by assumption⟩
  case rest =>
    obtain ⟨rfl, HS2⟩ := hcut
    clear HS CK MY TK CH AL
    go_wp2_with fail
    go_loopw [9] (fun i wr => ∃ k : Nat, k ≤ T + 2 ∧ i = .int .i64 ((k : Int) - 1) ∧ Hid (TwP w q1 q2 24 g s m wr)) (fun i _ => (T + 1 - intOf i).toNat)
    case atStart => exact ⟨0, Nat.zero_le _, rfl, HS2⟩
    case round =>
      obtain ⟨k, hk, rfl, HS3⟩ := hrel
      clear HS2
      obtain ⟨c0, c1, c2⟩ := (unhide HS3).x.cells
      go_wp2_with fail
      refine (unhide TK' _).mono ?_
      rintro r w4 ⟨rfl, hkk⟩
      have HS4 := hide ((unhide HS3).next hkk)
      clear c0 c1 c2 HS3 hkk
      by_cases hlt : k ≤ T + 1
      · have hlt' : (k : Int) - 1 ≤ (T : Int) := by omega
        obtain ⟨ka, ke, k1, k2⟩ := unhide KB ((k : Int) - 1)
        obtain ⟨Li, ie, hLi, i1, i2⟩ := unhide IB ((k : Int) - 1)
        obtain ⟨Lo, oe, hLo, o1, o2⟩ := unhide OB ((k : Int) - 1)
        have K1 := hide k1
        have K2 := hide k2
        have I1 := hide i1
        have I2 := hide i2
        have O1 := hide o1
        have O2 := hide o2
        clear k1 k2 i1 i2 o1 o2 KB IB OB
        obtain ⟨c0, c1, c2⟩ := (unhide HS4).p.cells
        go_wp2_with fail
        refine (unhide K1 _).mono ?_
        rintro r w5 ⟨rfl, hkk⟩
        have HS5 := hide ((unhide HS4).next hkk)
        clear c0 c1 c2 HS4 hkk K1
        obtain ⟨c0, c1, c2⟩ := (unhide HS5).x.cells
        go_wp2_with fail
        refine (unhide K2 _).mono ?_
        rintro r w6 ⟨rfl, hkk⟩
        have HS6 := hide ((unhide HS5).next hkk)
        clear c0 c1 c2 HS5 hkk K2
        obtain ⟨c0, c1, c2⟩ := (unhide HS6).p.cells
        go_wp2_with fail
        refine (unhide I1 _).mono ?_
        rintro r w7 ⟨vi, rfl, ho, hkk⟩
        have HS7 := hide ((unhide HS6).next hkk)
        have A7 := hide ho
        clear ho
        clear c0 c1 c2 HS6 hkk I1
        obtain ⟨c0, c1, c2⟩ := (unhide HS7).x.cells
        go_wp2_with fail
        refine (unhide I2 _).mono ?_
        rintro r w8 ⟨vj, rfl, ho, hkk⟩
        have HS8 := hide ((unhide HS7).next hkk)
        have A8 := hide ((unhide A7).kp hkk)
        have B8 := hide ho
        clear ho
        clear c0 c1 c2 HS7 hkk I2 A7
        obtain ⟨c0, c1, c2⟩ := (unhide HS8).p.cells
        go_wp2_with fail
        refine (unhide O1 _).mono ?_
        rintro r w9 ⟨vo, rfl, ho, hkk⟩
        have HS9 := hide ((unhide HS8).next hkk)
        have A9 := hide ((unhide A8).kp hkk)
        have B9 := hide ((unhide B8).kp hkk)
        have C9 := hide ho
        clear ho
        clear c0 c1 c2 HS8 hkk O1 A8 B8
        obtain ⟨c0, c1, c2⟩ := (unhide HS9).x.cells
        go_wp2_with fail
        refine (unhide O2 _).mono ?_
        rintro r w10 ⟨vp, rfl, ho, hkk⟩
        have HS10 := hide ((unhide HS9).next hkk)
        have A10 := hide ((unhide A9).kp hkk)
        have B10 := hide ((unhide B9).kp hkk)
        have C10 := hide ((unhide C9).kp hkk)
        have D10 := hide ho
        clear ho
        clear c0 c1 c2 HS9 hkk O2 A9 B9 C9
        go_wp2_with fail
        refine (sameN_any vi vj Li _ hLi (unhide A10) (unhide B10)).mono ?_
        rintro r w11 ⟨rfl, hkk⟩
        have HS11 := hide ((unhide HS10).next hkk)
        have C11 := hide ((unhide C10).kp hkk)
        have D11 := hide ((unhide D10).kp hkk)
        clear HS10 A10 B10 C10 D10 hkk
        go_wp2_with fail
        refine (sameN_any vo vp Lo _ hLo (unhide C11) (unhide D11)).mono ?_
        rintro r w12 ⟨rfl, hkk⟩
        have HS12 := hide ((unhide HS11).next hkk)
        clear HS11 C11 D11 hkk
        go_wp2
        go_roundw
        case rel => exact ⟨k + 1, by omega, congrArg (Value.int .i64) (by omega), HS12⟩
        case measure => simp [intOf]; omega
      · have hlt' : ¬ ((k : Int) - 1 ≤ (T : Int)) := by omega
        clear KB IB OB
        go_wp2_with fail
        refine (unhide WK _).mono ?_
        rintro r w5 ⟨rfl, hkk⟩
        have HS5 := hide ((unhide HS4).next hkk)
        clear HS4 hkk
        go_wp2
        go_ret
        exact ⟨rfl, (unhide HS5).kp.below (Nat.le_refl _) (by simp)⟩
end Go.Proofs.Ytlljilekompbeaa
