/-
  The document's net: Lose, Take.
-/
import Derived.Test.YtledoopfffhigaaT11
namespace Go.Proofs.Ytledoopfffhigaa
open Go.RowKit Nt

set_option maxHeartbeats 40000000 in
set_option maxRecDepth 100000 in
theorem rlose_any (B g : Nat) (s : St) (t i : Int) (w : World) (M : Int) (h : RnAt B w g s) (ok : Ok M s) (hM : M ≤ 2305843009213693952) :
    Calls Try.prog 21 #[.pointer (some ⟨g, 0, none⟩), .int .i64 t, .int .i64 i] w fun e w' => e = .returned (.int .i64 (fiE s t i)) ∧ RnAt B w' g (off s t i 1) ∧ Ks B rnT w w' := by
  obtain ⟨q, vs, hn0, hB⟩ := h
  have GE := hide (rget_any g q vs s t i w hn0)
  have H0 := hide hn0
  unfold off
  by_cases hf : fiE s t i = 0
  · have hnth := (nth_mem hf).2
    unfold taF taB at GE
    rw [hf, if_pos rfl, if_pos rfl] at GE
    obtain ⟨m, k, rfl, hm, rfl, hk⟩ := fi_at hf
    simp only [hf, if_true, Int.toNat_natCast]
    have hp : nth s (m : Int) (k : Int) = (row s (m : Int))[k] := by
      obtain ⟨k', e, hk', e2⟩ := hnth
      obtain rfl : k' = k := by omega
      exact e2
    rw [hp] at GE
    have hmi : (m : Int) < (s.ws.length : Int) := by omega
    have hrl := (ok.row (m : Int)).1
    clear hn0 hf hp hnth
    obtain ⟨p, hpk⟩ : ∃ p, (row s (m : Int))[k] = p := ⟨_, rfl⟩
    rw [hpk] at GE
    clear hpk
    obtain ⟨pf, pb⟩ := p
    dsimp only at GE
    go_enter Try.func21, Try.ntmps21
    go_wp2_with fail
    refine (unhide GE).mono ?_
    rintro r w1 ⟨rfl, hk1⟩
    obtain ⟨w2, hw2⟩ : ∃ w2, w2 = w1.alloc (.cells #[.int .i64 pf, .string pb] 79) := ⟨_, rfl⟩
    have k12 : Kp [] w w2 := by rw [hw2]; exact kp_tr hk1 (Kp.alloc _ _)
    have bx2 : CBox w1.heap.size #[.int .i64 pf, .string pb] 79 w2 := by rw [hw2]; exact CBox.new _ _ _
    have hn := (unhide H0).kp k12
    have K12 := hide k12
    have BX2 := hide bx2
    have lq : q ≠ w1.heap.size := by have := (Array.getElem?_eq_some_iff.1 (unhide H0).row).1; have := hk1.size; omega
    have lg : g ≠ w1.heap.size := by have := (Array.getElem?_eq_some_iff.1 (unhide H0).box).1; have := hk1.size; omega
    clear k12 bx2 hk1 GE H0
    obtain ⟨ad, cap, c1, hv, hr⟩ := hn.at m hm
    have c0 := hn.cell
    obtain ⟨gr, rfl⟩ : ∃ g, ad = some ⟨g, 0, none⟩ := by
      rcases hr.form with ⟨_, e⟩ | ⟨g, c, e, _⟩
      · rw [e] at hk; cases hk
      · injection e with e1; exact ⟨g, e1⟩
    obtain ⟨V, hV⟩ : ∃ V, V = w2.drew := ⟨_, rfl⟩
    have hkV : Kp [] w2 V := by rw [hV]; exact Kp.drew w2
    have HS : Hid (∀ W, Kp [] V W → W.cell? ⟨g, 0, none⟩ = some (.slice (some ⟨q, 0, none⟩) s.ws.length s.ws.length) ∧ W.cell? ⟨q, m, none⟩ = some (.slice (some ⟨gr, 0, none⟩) (row s (m : Int)).length cap)) := hide (fun W hk => by
      have hk0 := kp_tr hkV hk
      exact ⟨(hn.kp hk0).cell, hk0.cell c1 (by simp)⟩)
    have FZ : Hid (∀ W, Kp [] V W → W.frozen? ⟨q, m, none⟩ = false) := hide (fun W hk => (hn.kp (kp_tr hkV hk)).row.froz m)
    have WO := hide (rwithout_any gr cap (row s (m : Int)) k V (hr.kp hkV (by simp)) hk hrl)
    have FIN : Hid (∀ W v', Kp [] V W → RpRow W v' ((row s (m : Int)).eraseIdx k) → ∃ vs', RnV (W.setCell ⟨q, m, none⟩ v') g q vs' ⟨s.ws.set m ((row s (m : Int)).eraseIdx k), s.c⟩ ∧ Kp [q] w2 (W.setCell ⟨q, m, none⟩ v')) := hide (fun W v' hk ho => by
      obtain ⟨a1, a2⟩ := hn.put hm (kp_tr hkV hk) (v' := v') ho
      exact ⟨_, a1, a2⟩)
    have hki : (k : Int) < ((row s (m : Int)).length : Int) := by omega
    clear hkV hrl hv
    go_upto_region 4 with fail
    rw [← hw2]
    clear hw2
    go_cut [] (fun wc => ∃ vs', Hid (RnV wc g q vs' ⟨s.ws.set m ((row s (m : Int)).eraseIdx k), s.c⟩ ∧ Kp [q] w2 wc))
    case first =>
      clear hn ok hr hB hm
      generalize (row s (m : Int)).eraseIdx k = R2 at *
      generalize (row s (m : Int)).length = L at *
      generalize s.ws.length = n at *
      refine wp_region_late (fun W => W.cell? ⟨g, 0, none⟩ = some (.slice (some ⟨q, 0, none⟩) n n) ∧ W.cell? ⟨q, m, none⟩ = some (.slice (some ⟨gr, 0, none⟩) L cap)) 15 (by kernel_rfl) ?_
      rw [← hV]
      clear hV
      show wpAnyL _ _ _ _ _ _ 16 (Array.replicate 16 false) _ _
      refine wpAnyL_take3 (i := 0) (oi := { dst := some 19, op := Op.move (Operand.tmp 0), type := 27, pos := "ref.go:91", after := #[], guard := none }) (v := ?_) rfl (by kernel_rfl) (by kernel_rfl) (by kernel_rfl) (by kernel_rfl) (fun _ _ _ h => h) (Or.inl ⟨by rfl, ?_⟩) (unhide HS V (Kp.refl _ _)) ?_
      rotate_left 1
      · intro w0 hSw
        (try dsimp only at hSw)
        go_simp
        (try with_reducible rfl)
      try simp only [Act.put, List.setIfInBounds_toArray, List.set_cons_zero, List.set_cons_succ]
      refine wpAnyL_take3 (i := 1) (oi := { dst := some 20, op := Op.nilCheck (Operand.tmp 19), type := 0, pos := "ref.go:91", after := #[{ on := 0, ground := Ground.data }], guard := none }) (v := ?_) rfl (by kernel_rfl) (by kernel_rfl) (by kernel_rfl) (by kernel_rfl) (fun _ _ _ h => h) (Or.inl ⟨by rfl, ?_⟩) (unhide HS V (Kp.refl _ _)) ?_
      rotate_left 1
      · intro w0 hSw
        (try dsimp only at hSw)
        go_simp
        (try with_reducible rfl)
      try simp only [Act.put, List.setIfInBounds_toArray, List.set_cons_zero, List.set_cons_succ]
      refine wpAnyL_take3 (i := 2) (oi := { dst := some 21, op := Op.fieldAddr 37 (Operand.tmp 20) 0, type := 0, pos := "ref.go:91", after := #[{ on := 1, ground := Ground.data }], guard := none }) (v := ?_) rfl (by kernel_rfl) (by kernel_rfl) (by kernel_rfl) (by kernel_rfl) (fun _ _ _ h => h) (Or.inl ⟨by rfl, ?_⟩) (unhide HS V (Kp.refl _ _)) ?_
      rotate_left 1
      · intro w0 hSw
        (try dsimp only at hSw)
        go_simp
        (try with_reducible rfl)
      try simp only [Act.put, List.setIfInBounds_toArray, List.set_cons_zero, List.set_cons_succ]
      refine wpAnyL_take3 (i := 3) (oi := { dst := some 22, op := Op.load 35 (Operand.tmp 21), type := 35, pos := "ref.go:91", after := #[{ on := 2, ground := Ground.data }], guard := none }) (v := ?_) rfl (by kernel_rfl) (by kernel_rfl) (by kernel_rfl) (by kernel_rfl) (fun _ _ _ h => h) (Or.inl ⟨by rfl, ?_⟩) (unhide HS V (Kp.refl _ _)) ?_
      rotate_left 1
      · intro w0 hSw
        (try dsimp only at hSw)
        go_simp
        (try with_reducible rfl)
      try simp only [Act.put, List.setIfInBounds_toArray, List.set_cons_zero, List.set_cons_succ]
      refine wpAnyL_take3 (i := 4) (oi := { dst := some 23, op := Op.move (Operand.tmp 1), type := 3, pos := "ref.go:91", after := #[], guard := none }) (v := ?_) rfl (by kernel_rfl) (by kernel_rfl) (by kernel_rfl) (by kernel_rfl) (fun _ _ _ h => h) (Or.inl ⟨by rfl, ?_⟩) (unhide HS V (Kp.refl _ _)) ?_
      rotate_left 1
      · intro w0 hSw
        (try dsimp only at hSw)
        go_simp
        (try with_reducible rfl)
      try simp only [Act.put, List.setIfInBounds_toArray, List.set_cons_zero, List.set_cons_succ]
      refine wpAnyL_take3 (i := 5) (oi := { dst := some 24, op := Op.move (Operand.tmp 0), type := 27, pos := "ref.go:91", after := #[], guard := none }) (v := ?_) rfl (by kernel_rfl) (by kernel_rfl) (by kernel_rfl) (by kernel_rfl) (fun _ _ _ h => h) (Or.inl ⟨by rfl, ?_⟩) (unhide HS V (Kp.refl _ _)) ?_
      rotate_left 1
      · intro w0 hSw
        (try dsimp only at hSw)
        go_simp
        (try with_reducible rfl)
      try simp only [Act.put, List.setIfInBounds_toArray, List.set_cons_zero, List.set_cons_succ]
      refine wpAnyL_take3 (i := 6) (oi := { dst := some 25, op := Op.nilCheck (Operand.tmp 24), type := 0, pos := "ref.go:91", after := #[{ on := 5, ground := Ground.data }], guard := none }) (v := ?_) rfl (by kernel_rfl) (by kernel_rfl) (by kernel_rfl) (by kernel_rfl) (fun _ _ _ h => h) (Or.inl ⟨by rfl, ?_⟩) (unhide HS V (Kp.refl _ _)) ?_
      rotate_left 1
      · intro w0 hSw
        (try dsimp only at hSw)
        go_simp
        (try with_reducible rfl)
      try simp only [Act.put, List.setIfInBounds_toArray, List.set_cons_zero, List.set_cons_succ]
      refine wpAnyL_take3 (i := 7) (oi := { dst := some 26, op := Op.fieldAddr 37 (Operand.tmp 25) 0, type := 0, pos := "ref.go:91", after := #[{ on := 6, ground := Ground.data }], guard := none }) (v := ?_) rfl (by kernel_rfl) (by kernel_rfl) (by kernel_rfl) (by kernel_rfl) (fun _ _ _ h => h) (Or.inl ⟨by rfl, ?_⟩) (unhide HS V (Kp.refl _ _)) ?_
      rotate_left 1
      · intro w0 hSw
        (try dsimp only at hSw)
        go_simp
        (try with_reducible rfl)
      try simp only [Act.put, List.setIfInBounds_toArray, List.set_cons_zero, List.set_cons_succ]
      refine wpAnyL_take3 (i := 8) (oi := { dst := some 27, op := Op.load 35 (Operand.tmp 26), type := 35, pos := "ref.go:91", after := #[{ on := 7, ground := Ground.data }], guard := none }) (v := ?_) rfl (by kernel_rfl) (by kernel_rfl) (by kernel_rfl) (by kernel_rfl) (fun _ _ _ h => h) (Or.inl ⟨by rfl, ?_⟩) (unhide HS V (Kp.refl _ _)) ?_
      rotate_left 1
      · intro w0 hSw
        (try dsimp only at hSw)
        go_simp
        (try with_reducible rfl)
      try simp only [Act.put, List.setIfInBounds_toArray, List.set_cons_zero, List.set_cons_succ]
      refine wpAnyL_take3 (i := 9) (oi := { dst := some 28, op := Op.move (Operand.tmp 1), type := 3, pos := "ref.go:91", after := #[], guard := none }) (v := ?_) rfl (by kernel_rfl) (by kernel_rfl) (by kernel_rfl) (by kernel_rfl) (fun _ _ _ h => h) (Or.inl ⟨by rfl, ?_⟩) (unhide HS V (Kp.refl _ _)) ?_
      rotate_left 1
      · intro w0 hSw
        (try dsimp only at hSw)
        go_simp
        (try with_reducible rfl)
      try simp only [Act.put, List.setIfInBounds_toArray, List.set_cons_zero, List.set_cons_succ]
      refine wpAnyL_take3 (i := 10) (oi := { dst := some 29, op := Op.indexAddr 35 (Operand.tmp 27) (Operand.tmp 28), type := 0, pos := "ref.go:91", after := #[{ on := 8, ground := Ground.data }, { on := 9, ground := Ground.data }], guard := none }) (v := ?_) rfl (by kernel_rfl) (by kernel_rfl) (by kernel_rfl) (by kernel_rfl) (fun _ _ _ h => h) (Or.inl ⟨by rfl, ?_⟩) (unhide HS V (Kp.refl _ _)) ?_
      rotate_left 1
      · intro w0 hSw
        (try dsimp only at hSw)
        go_simp
        (try with_reducible rfl)
      try simp only [Act.put, List.setIfInBounds_toArray, List.set_cons_zero, List.set_cons_succ]
      refine wpAnyL_take3 (i := 11) (oi := { dst := some 30, op := Op.load 77 (Operand.tmp 29), type := 77, pos := "ref.go:91", after := #[{ on := 10, ground := Ground.data }], guard := none }) (v := ?_) rfl (by kernel_rfl) (by kernel_rfl) (by kernel_rfl) (by kernel_rfl) (fun _ _ _ h => h) (Or.inl ⟨by rfl, ?_⟩) (unhide HS V (Kp.refl _ _)) ?_
      rotate_left 1
      · intro w0 hSw
        (try dsimp only at hSw)
        go_simp
        (try with_reducible rfl)
      try simp only [Act.put, List.setIfInBounds_toArray, List.set_cons_zero, List.set_cons_succ]
      refine wpAnyL_take3 (i := 12) (oi := { dst := some 31, op := Op.move (Operand.tmp 2), type := 3, pos := "ref.go:91", after := #[], guard := none }) (v := ?_) rfl (by kernel_rfl) (by kernel_rfl) (by kernel_rfl) (by kernel_rfl) (fun _ _ _ h => h) (Or.inl ⟨by rfl, ?_⟩) (unhide HS V (Kp.refl _ _)) ?_
      rotate_left 1
      · intro w0 hSw
        (try dsimp only at hSw)
        go_simp
        (try with_reducible rfl)
      try simp only [Act.put, List.setIfInBounds_toArray, List.set_cons_zero, List.set_cons_succ]
      refine wpAnyL_one (i := 13) (o := { dst := some 32, op := Op.call { callee := Callee.value (Operand.func 37), args := #[Operand.tmp 30, Operand.tmp 31], argTypes := #[77, 3] }, type := 77, pos := "ref.go:91", after := #[{ on := 11, ground := Ground.data }, { on := 12, ground := Ground.data }], guard := none }) rfl (by kernel_rfl) (fun K hK => ?_)
      go_simp
      refine (unhide WO).mono ?_
      rintro r w5 ⟨v', rfl, r5, k5⟩
      have FN := hide (unhide FIN w5 v' k5 r5)
      have s5 := unhide HS w5 k5
      have f5 := unhide FZ w5 k5
      obtain ⟨ad5, cap5, hv5⟩ := r5.slice
      subst hv5
      clear r5 k5
      refine hK _ _ (Or.inr s5) ?_
      clear hK K
      try simp only [Act.put, List.setIfInBounds_toArray, List.set_cons_zero, List.set_cons_succ]
      refine wpAnyL_one (i := 14) (o := { dst := some 33, op := Op.indexAddr 35 (Operand.tmp 22) (Operand.tmp 23), type := 0, pos := "ref.go:91", after := #[{ on := 3, ground := Ground.data }, { on := 4, ground := Ground.data }, { on := 0, ground := Ground.phase }, { on := 1, ground := Ground.phase }, { on := 2, ground := Ground.phase }, { on := 3, ground := Ground.phase }, { on := 4, ground := Ground.phase }, { on := 5, ground := Ground.phase }, { on := 6, ground := Ground.phase }, { on := 7, ground := Ground.phase }, { on := 8, ground := Ground.phase }, { on := 9, ground := Ground.phase }, { on := 10, ground := Ground.phase }, { on := 11, ground := Ground.phase }, { on := 12, ground := Ground.phase }, { on := 13, ground := Ground.phase }], guard := none }) rfl (by kernel_rfl) (fun K hK => ?_)
      go_simp
      refine hK _ _ (Or.inr s5) ?_
      clear hK K
      try simp only [Act.put, List.setIfInBounds_toArray, List.set_cons_zero, List.set_cons_succ]
      refine wpAnyL_one (i := 15) (o := { dst := none, op := Op.store 77 (Operand.tmp 33) (Operand.tmp 32), type := 0, pos := "ref.go:91", after := #[{ on := 14, ground := Ground.data }, { on := 13, ground := Ground.data }, { on := 13, ground := Ground.chain }, { on := 0, ground := Ground.phase }, { on := 1, ground := Ground.phase }, { on := 2, ground := Ground.phase }, { on := 3, ground := Ground.phase }, { on := 4, ground := Ground.phase }, { on := 5, ground := Ground.phase }, { on := 6, ground := Ground.phase }, { on := 7, ground := Ground.phase }, { on := 8, ground := Ground.phase }, { on := 9, ground := Ground.phase }, { on := 10, ground := Ground.phase }, { on := 11, ground := Ground.phase }, { on := 12, ground := Ground.phase }, { on := 13, ground := Ground.phase }], guard := none }) rfl (by kernel_rfl) (fun K hK => ?_)
      go_simp
      refine hK _ _ (Or.inl rfl) ?_
      clear hK K
      try simp only [Act.put, List.setIfInBounds_toArray, List.set_cons_zero, List.set_cons_succ]
      refine wpAnyL_done (by kernel_rfl) ?_ _
      go_wp2
      go_meet
      obtain ⟨vs', z1⟩ := unhide FN
      exact ⟨vs', hide z1⟩
    case rest =>
      obtain ⟨vs2, HR⟩ := hcut
      obtain ⟨V2, hV2⟩ : ∃ V2, V2 = wc.drew := ⟨_, rfl⟩
      have kV2 : Kp [] wc V2 := by rw [hV2]; exact Kp.drew wc
      have b0 : V2.cell? ⟨g, 2, none⟩ = some (.int .i64 (s.c 1)) := ((unhide HR).1.kp kV2).box.cell (ntC_at _ _ _ 1 (by decide))
      have fz := ((unhide HR).1.kp kV2).box.froz 2
      have hw : IntKind.i64.wrap (s.c 1 + 1) = s.c 1 + 1 := by
        have h1 := ok.lo 1
        have h2 := ok.hi 1
        rw [IntKind.wrap_i64]
        omega
      have bx3 : CBox w1.heap.size #[.int .i64 pf, .string pb] 79 (V2.setCell ⟨g, 2, none⟩ (.int .i64 (s.c 1 + 1))) := (((unhide BX2).kp (unhide HR).2 (by simpa using fun e => lq e.symm)).kp kV2 (by simp)).kp (Kp.set _ _ _ _) (by simpa using fun e => lg e.symm)
      have FN : Hid (RnAt B (V2.setCell ⟨g, 2, none⟩ (.int .i64 (s.c 1 + 1))) g (put s (m : Int) ((row s (m : Int)).eraseIdx k) 1 1) ∧ Ks B rnT w (V2.setCell ⟨g, 2, none⟩ (.int .i64 (s.c 1 + 1)))) := hide (by
        obtain ⟨a1, a2⟩ := (unhide HR).1.count kV2 1 (by decide) (s.c 1 + 1)
        have e : put s (m : Int) ((row s (m : Int)).eraseIdx k) 1 1 = ⟨s.ws.set m (((row s (m : Int)).eraseIdx k)), up s.c 1 (s.c 1 + 1)⟩ := by unfold put; rw [Int.toNat_natCast]
        rw [e]
        refine ⟨⟨q, vs2, a1, hB⟩, (Ks.nil (unhide K12)).trans (rn_ks hn hB (F := [q, g]) (((unhide HR).2.mono (by simp)).trans (a2.mono (G := [q, g]) (by simp)) (fun _ hx => Or.inl hx)) (fun k hk => ?_))⟩
        simp at hk
        rcases hk with rfl | rfl
        · exact Or.inr (Or.inl rfl)
        · exact Or.inl rfl)
      clear HR ok hn hB hm kV2
      generalize s.c 1 = C at *
      have BX3 := hide bx3
      clear bx3
      go_upto_region 5 with fail
      refine wp_region_late (fun W => W.cell? ⟨g, 2, none⟩ = some (.int .i64 C)) 9 (by kernel_rfl) ?_
      rw [← hV2]
      clear hV2
      show wpAnyL _ _ _ _ _ _ 10 (Array.replicate 10 false) _ _
      refine wpAnyL_take3 (i := 0) (oi := { dst := some 34, op := Op.move (Operand.tmp 0), type := 27, pos := "ref.go:92", after := #[], guard := none }) (v := ?_) rfl (by kernel_rfl) (by kernel_rfl) (by kernel_rfl) (by kernel_rfl) (fun _ _ _ h => h) (Or.inl ⟨by rfl, ?_⟩) b0 ?_
      rotate_left 1
      · intro w0 hSw
        (try dsimp only at hSw)
        go_simp
        (try with_reducible rfl)
      try simp only [Act.put, List.setIfInBounds_toArray, List.set_cons_zero, List.set_cons_succ]
      refine wpAnyL_take3 (i := 1) (oi := { dst := some 35, op := Op.nilCheck (Operand.tmp 34), type := 0, pos := "ref.go:92", after := #[{ on := 0, ground := Ground.data }], guard := none }) (v := ?_) rfl (by kernel_rfl) (by kernel_rfl) (by kernel_rfl) (by kernel_rfl) (fun _ _ _ h => h) (Or.inl ⟨by rfl, ?_⟩) b0 ?_
      rotate_left 1
      · intro w0 hSw
        (try dsimp only at hSw)
        go_simp
        (try with_reducible rfl)
      try simp only [Act.put, List.setIfInBounds_toArray, List.set_cons_zero, List.set_cons_succ]
      refine wpAnyL_take3 (i := 2) (oi := { dst := some 36, op := Op.fieldAddr 37 (Operand.tmp 35) 1, type := 0, pos := "ref.go:92", after := #[{ on := 1, ground := Ground.data }], guard := none }) (v := ?_) rfl (by kernel_rfl) (by kernel_rfl) (by kernel_rfl) (by kernel_rfl) (fun _ _ _ h => h) (Or.inl ⟨by rfl, ?_⟩) b0 ?_
      rotate_left 1
      · intro w0 hSw
        (try dsimp only at hSw)
        go_simp
        (try with_reducible rfl)
      try simp only [Act.put, List.setIfInBounds_toArray, List.set_cons_zero, List.set_cons_succ]
      refine wpAnyL_take3 (i := 3) (oi := { dst := some 37, op := Op.indexAddr 33 (Operand.tmp 36) (Operand.const (Value.int IntKind.i64 1)), type := 0, pos := "ref.go:92", after := #[{ on := 2, ground := Ground.data }], guard := none }) (v := ?_) rfl (by kernel_rfl) (by kernel_rfl) (by kernel_rfl) (by kernel_rfl) (fun _ _ _ h => h) (Or.inl ⟨by rfl, ?_⟩) b0 ?_
      rotate_left 1
      · intro w0 hSw
        (try dsimp only at hSw)
        go_simp
        (try with_reducible rfl)
      try simp only [Act.put, List.setIfInBounds_toArray, List.set_cons_zero, List.set_cons_succ]
      refine wpAnyL_take3 (i := 4) (oi := { dst := some 38, op := Op.load 3 (Operand.tmp 37), type := 3, pos := "ref.go:92", after := #[{ on := 3, ground := Ground.data }], guard := none }) (v := ?_) rfl (by kernel_rfl) (by kernel_rfl) (by kernel_rfl) (by kernel_rfl) (fun _ _ _ h => h) (Or.inl ⟨by rfl, ?_⟩) b0 ?_
      rotate_left 1
      · intro w0 hSw
        (try dsimp only at hSw)
        go_simp
        (try with_reducible rfl)
      try simp only [Act.put, List.setIfInBounds_toArray, List.set_cons_zero, List.set_cons_succ]
      refine wpAnyL_take3 (i := 5) (oi := { dst := some 39, op := Op.binOp BinOp.add 3 (Operand.tmp 38) (Operand.const (Value.int IntKind.i64 1)) 3, type := 3, pos := "ref.go:92", after := #[{ on := 4, ground := Ground.data }], guard := none }) (v := ?_) rfl (by kernel_rfl) (by kernel_rfl) (by kernel_rfl) (by kernel_rfl) (fun _ _ _ h => h) (Or.inl ⟨by rfl, ?_⟩) b0 ?_
      rotate_left 1
      · intro w0 hSw
        (try dsimp only at hSw)
        go_simp
        (try with_reducible rfl)
      try simp only [Act.put, List.setIfInBounds_toArray, List.set_cons_zero, List.set_cons_succ]
      refine wpAnyL_one (i := 6) (o := { dst := some 40, op := Op.nilCheck (Operand.tmp 34), type := 0, pos := "ref.go:92", after := #[{ on := 0, ground := Ground.data }], guard := none }) rfl (by kernel_rfl) (fun K hK => ?_)
      go_simp
      refine hK _ _ (Or.inr b0) ?_
      clear hK K
      try simp only [Act.put, List.setIfInBounds_toArray, List.set_cons_zero, List.set_cons_succ]
      refine wpAnyL_one (i := 7) (o := { dst := some 41, op := Op.fieldAddr 37 (Operand.tmp 40) 1, type := 0, pos := "ref.go:92", after := #[{ on := 6, ground := Ground.data }], guard := none }) rfl (by kernel_rfl) (fun K hK => ?_)
      go_simp
      refine hK _ _ (Or.inr b0) ?_
      clear hK K
      try simp only [Act.put, List.setIfInBounds_toArray, List.set_cons_zero, List.set_cons_succ]
      refine wpAnyL_one (i := 8) (o := { dst := some 42, op := Op.indexAddr 33 (Operand.tmp 41) (Operand.const (Value.int IntKind.i64 1)), type := 0, pos := "ref.go:92", after := #[{ on := 7, ground := Ground.data }, { on := 0, ground := Ground.phase }, { on := 1, ground := Ground.phase }, { on := 2, ground := Ground.phase }, { on := 3, ground := Ground.phase }, { on := 4, ground := Ground.phase }, { on := 5, ground := Ground.phase }], guard := none }) rfl (by kernel_rfl) (fun K hK => ?_)
      go_simp
      refine hK _ _ (Or.inr b0) ?_
      clear hK K
      try simp only [Act.put, List.setIfInBounds_toArray, List.set_cons_zero, List.set_cons_succ]
      refine wpAnyL_one (i := 9) (o := { dst := none, op := Op.store 3 (Operand.tmp 42) (Operand.tmp 39), type := 0, pos := "ref.go:92", after := #[{ on := 8, ground := Ground.data }, { on := 5, ground := Ground.data }, { on := 0, ground := Ground.phase }, { on := 1, ground := Ground.phase }, { on := 2, ground := Ground.phase }, { on := 3, ground := Ground.phase }, { on := 4, ground := Ground.phase }, { on := 5, ground := Ground.phase }], guard := none }) rfl (by kernel_rfl) (fun K hK => ?_)
      go_simp
      refine hK _ _ (Or.inl rfl) ?_
      clear hK K
      try simp only [Act.put, List.setIfInBounds_toArray, List.set_cons_zero, List.set_cons_succ]
      refine wpAnyL_done (by kernel_rfl) ?_ _
      go_wp2
      go_ret
      exact ⟨rfl, unhide FN⟩
  · simp only [hf, if_false]
    have h1 : taF s t i = 0 := by unfold taF; rw [if_neg hf]
    have h2 : taB s t i = ⟨#[]⟩ := by unfold taB; rw [if_neg hf]
    rw [h1, h2] at GE
    clear hn0 h1 h2
    generalize fiE s t i = E at *
    go_enter Try.func21, Try.ntmps21
    go_wp2_with fail
    refine (unhide GE).mono ?_
    rintro r w1 ⟨rfl, hk1⟩
    have k2 := kp_tr hk1 (Kp.alloc w1 (.cells #[.int .i64 0, .string ⟨#[]⟩] 79))
    have HS : Hid (RnAt B (w1.alloc (.cells #[.int .i64 0, .string ⟨#[]⟩] 79)) g s ∧ Ks B rnT w (w1.alloc (.cells #[.int .i64 0, .string ⟨#[]⟩] 79))) := hide ⟨⟨q, vs, (unhide H0).kp k2, hB⟩, Ks.nil k2⟩
    clear GE H0 k2 hk1
    go_wp2
    go_ret
    exact ⟨rfl, unhide HS⟩
set_option maxHeartbeats 40000000 in
set_option maxRecDepth 100000 in
theorem rtake_any (B g : Nat) (s : St) (t i : Int) (w : World) (M : Int) (h : RnAt B w g s) (ok : Ok M s) (hM : M ≤ 2305843009213693952) :
    Calls Try.prog 20 #[.pointer (some ⟨g, 0, none⟩), .int .i64 t, .int .i64 i] w fun e w' => e = .returned (.tuple #[.int .i64 (taF s t i), .string (taB s t i), .int .i64 (fiE s t i)]) ∧ RnAt B w' g (off s t i 3) ∧ Ks B rnT w w' := by
  obtain ⟨q, vs, hn0, hB⟩ := h
  have GE := hide (rget_any g q vs s t i w hn0)
  have H0 := hide hn0
  unfold off
  unfold taF taB
  by_cases hf : fiE s t i = 0
  · have hnth := (nth_mem hf).2
    unfold taF taB at GE
    rw [hf, if_pos rfl, if_pos rfl] at GE
    obtain ⟨m, k, rfl, hm, rfl, hk⟩ := fi_at hf
    simp only [hf, if_true, Int.toNat_natCast]
    have hp : nth s (m : Int) (k : Int) = (row s (m : Int))[k] := by
      obtain ⟨k', e, hk', e2⟩ := hnth
      obtain rfl : k' = k := by omega
      exact e2
    rw [hp] at GE ⊢
    have hmi : (m : Int) < (s.ws.length : Int) := by omega
    have hrl := (ok.row (m : Int)).1
    clear hn0 hf hp hnth
    obtain ⟨p, hpk⟩ : ∃ p, (row s (m : Int))[k] = p := ⟨_, rfl⟩
    rw [hpk] at GE ⊢
    clear hpk
    obtain ⟨pf, pb⟩ := p
    dsimp only at GE ⊢
    go_enter Try.func20, Try.ntmps20
    go_wp2_with fail
    refine (unhide GE).mono ?_
    rintro r w1 ⟨rfl, hk1⟩
    obtain ⟨w2, hw2⟩ : ∃ w2, w2 = w1.alloc (.cells #[.int .i64 pf, .string pb] 79) := ⟨_, rfl⟩
    have k12 : Kp [] w w2 := by rw [hw2]; exact kp_tr hk1 (Kp.alloc _ _)
    have bx2 : CBox w1.heap.size #[.int .i64 pf, .string pb] 79 w2 := by rw [hw2]; exact CBox.new _ _ _
    have hn := (unhide H0).kp k12
    have K12 := hide k12
    have BX2 := hide bx2
    have lq : q ≠ w1.heap.size := by have := (Array.getElem?_eq_some_iff.1 (unhide H0).row).1; have := hk1.size; omega
    have lg : g ≠ w1.heap.size := by have := (Array.getElem?_eq_some_iff.1 (unhide H0).box).1; have := hk1.size; omega
    clear k12 bx2 hk1 GE H0
    obtain ⟨ad, cap, c1, hv, hr⟩ := hn.at m hm
    have c0 := hn.cell
    obtain ⟨gr, rfl⟩ : ∃ g, ad = some ⟨g, 0, none⟩ := by
      rcases hr.form with ⟨_, e⟩ | ⟨g, c, e, _⟩
      · rw [e] at hk; cases hk
      · injection e with e1; exact ⟨g, e1⟩
    obtain ⟨V, hV⟩ : ∃ V, V = w2.drew := ⟨_, rfl⟩
    have hkV : Kp [] w2 V := by rw [hV]; exact Kp.drew w2
    have HS : Hid (∀ W, Kp [] V W → W.cell? ⟨g, 0, none⟩ = some (.slice (some ⟨q, 0, none⟩) s.ws.length s.ws.length) ∧ W.cell? ⟨q, m, none⟩ = some (.slice (some ⟨gr, 0, none⟩) (row s (m : Int)).length cap)) := hide (fun W hk => by
      have hk0 := kp_tr hkV hk
      exact ⟨(hn.kp hk0).cell, hk0.cell c1 (by simp)⟩)
    have FZ : Hid (∀ W, Kp [] V W → W.frozen? ⟨q, m, none⟩ = false) := hide (fun W hk => (hn.kp (kp_tr hkV hk)).row.froz m)
    have WO := hide (rwithout_any gr cap (row s (m : Int)) k V (hr.kp hkV (by simp)) hk hrl)
    have FIN : Hid (∀ W v', Kp [] V W → RpRow W v' ((row s (m : Int)).eraseIdx k) → ∃ vs', RnV (W.setCell ⟨q, m, none⟩ v') g q vs' ⟨s.ws.set m ((row s (m : Int)).eraseIdx k), s.c⟩ ∧ Kp [q] w2 (W.setCell ⟨q, m, none⟩ v')) := hide (fun W v' hk ho => by
      obtain ⟨a1, a2⟩ := hn.put hm (kp_tr hkV hk) (v' := v') ho
      exact ⟨_, a1, a2⟩)
    have hki : (k : Int) < ((row s (m : Int)).length : Int) := by omega
    clear hkV hrl hv
    go_upto_region 4 with fail
    rw [← hw2]
    clear hw2
    go_cut [] (fun wc => ∃ vs', Hid (RnV wc g q vs' ⟨s.ws.set m ((row s (m : Int)).eraseIdx k), s.c⟩ ∧ Kp [q] w2 wc))
    case first =>
      clear hn ok hr hB hm
      generalize (row s (m : Int)).eraseIdx k = R2 at *
      generalize (row s (m : Int)).length = L at *
      generalize s.ws.length = n at *
      refine wp_region_late (fun W => W.cell? ⟨g, 0, none⟩ = some (.slice (some ⟨q, 0, none⟩) n n) ∧ W.cell? ⟨q, m, none⟩ = some (.slice (some ⟨gr, 0, none⟩) L cap)) 15 (by kernel_rfl) ?_
      rw [← hV]
      clear hV
      show wpAnyL _ _ _ _ _ _ 16 (Array.replicate 16 false) _ _
      refine wpAnyL_take3 (i := 0) (oi := { dst := some 21, op := Op.move (Operand.tmp 0), type := 27, pos := "ref.go:80", after := #[], guard := none }) (v := ?_) rfl (by kernel_rfl) (by kernel_rfl) (by kernel_rfl) (by kernel_rfl) (fun _ _ _ h => h) (Or.inl ⟨by rfl, ?_⟩) (unhide HS V (Kp.refl _ _)) ?_
      rotate_left 1
      · intro w0 hSw
        (try dsimp only at hSw)
        go_simp
        (try with_reducible rfl)
      try simp only [Act.put, List.setIfInBounds_toArray, List.set_cons_zero, List.set_cons_succ]
      refine wpAnyL_take3 (i := 1) (oi := { dst := some 22, op := Op.nilCheck (Operand.tmp 21), type := 0, pos := "ref.go:80", after := #[{ on := 0, ground := Ground.data }], guard := none }) (v := ?_) rfl (by kernel_rfl) (by kernel_rfl) (by kernel_rfl) (by kernel_rfl) (fun _ _ _ h => h) (Or.inl ⟨by rfl, ?_⟩) (unhide HS V (Kp.refl _ _)) ?_
      rotate_left 1
      · intro w0 hSw
        (try dsimp only at hSw)
        go_simp
        (try with_reducible rfl)
      try simp only [Act.put, List.setIfInBounds_toArray, List.set_cons_zero, List.set_cons_succ]
      refine wpAnyL_take3 (i := 2) (oi := { dst := some 23, op := Op.fieldAddr 37 (Operand.tmp 22) 0, type := 0, pos := "ref.go:80", after := #[{ on := 1, ground := Ground.data }], guard := none }) (v := ?_) rfl (by kernel_rfl) (by kernel_rfl) (by kernel_rfl) (by kernel_rfl) (fun _ _ _ h => h) (Or.inl ⟨by rfl, ?_⟩) (unhide HS V (Kp.refl _ _)) ?_
      rotate_left 1
      · intro w0 hSw
        (try dsimp only at hSw)
        go_simp
        (try with_reducible rfl)
      try simp only [Act.put, List.setIfInBounds_toArray, List.set_cons_zero, List.set_cons_succ]
      refine wpAnyL_take3 (i := 3) (oi := { dst := some 24, op := Op.load 35 (Operand.tmp 23), type := 35, pos := "ref.go:80", after := #[{ on := 2, ground := Ground.data }], guard := none }) (v := ?_) rfl (by kernel_rfl) (by kernel_rfl) (by kernel_rfl) (by kernel_rfl) (fun _ _ _ h => h) (Or.inl ⟨by rfl, ?_⟩) (unhide HS V (Kp.refl _ _)) ?_
      rotate_left 1
      · intro w0 hSw
        (try dsimp only at hSw)
        go_simp
        (try with_reducible rfl)
      try simp only [Act.put, List.setIfInBounds_toArray, List.set_cons_zero, List.set_cons_succ]
      refine wpAnyL_take3 (i := 4) (oi := { dst := some 25, op := Op.move (Operand.tmp 1), type := 3, pos := "ref.go:80", after := #[], guard := none }) (v := ?_) rfl (by kernel_rfl) (by kernel_rfl) (by kernel_rfl) (by kernel_rfl) (fun _ _ _ h => h) (Or.inl ⟨by rfl, ?_⟩) (unhide HS V (Kp.refl _ _)) ?_
      rotate_left 1
      · intro w0 hSw
        (try dsimp only at hSw)
        go_simp
        (try with_reducible rfl)
      try simp only [Act.put, List.setIfInBounds_toArray, List.set_cons_zero, List.set_cons_succ]
      refine wpAnyL_take3 (i := 5) (oi := { dst := some 26, op := Op.move (Operand.tmp 0), type := 27, pos := "ref.go:80", after := #[], guard := none }) (v := ?_) rfl (by kernel_rfl) (by kernel_rfl) (by kernel_rfl) (by kernel_rfl) (fun _ _ _ h => h) (Or.inl ⟨by rfl, ?_⟩) (unhide HS V (Kp.refl _ _)) ?_
      rotate_left 1
      · intro w0 hSw
        (try dsimp only at hSw)
        go_simp
        (try with_reducible rfl)
      try simp only [Act.put, List.setIfInBounds_toArray, List.set_cons_zero, List.set_cons_succ]
      refine wpAnyL_take3 (i := 6) (oi := { dst := some 27, op := Op.nilCheck (Operand.tmp 26), type := 0, pos := "ref.go:80", after := #[{ on := 5, ground := Ground.data }], guard := none }) (v := ?_) rfl (by kernel_rfl) (by kernel_rfl) (by kernel_rfl) (by kernel_rfl) (fun _ _ _ h => h) (Or.inl ⟨by rfl, ?_⟩) (unhide HS V (Kp.refl _ _)) ?_
      rotate_left 1
      · intro w0 hSw
        (try dsimp only at hSw)
        go_simp
        (try with_reducible rfl)
      try simp only [Act.put, List.setIfInBounds_toArray, List.set_cons_zero, List.set_cons_succ]
      refine wpAnyL_take3 (i := 7) (oi := { dst := some 28, op := Op.fieldAddr 37 (Operand.tmp 27) 0, type := 0, pos := "ref.go:80", after := #[{ on := 6, ground := Ground.data }], guard := none }) (v := ?_) rfl (by kernel_rfl) (by kernel_rfl) (by kernel_rfl) (by kernel_rfl) (fun _ _ _ h => h) (Or.inl ⟨by rfl, ?_⟩) (unhide HS V (Kp.refl _ _)) ?_
      rotate_left 1
      · intro w0 hSw
        (try dsimp only at hSw)
        go_simp
        (try with_reducible rfl)
      try simp only [Act.put, List.setIfInBounds_toArray, List.set_cons_zero, List.set_cons_succ]
      refine wpAnyL_take3 (i := 8) (oi := { dst := some 29, op := Op.load 35 (Operand.tmp 28), type := 35, pos := "ref.go:80", after := #[{ on := 7, ground := Ground.data }], guard := none }) (v := ?_) rfl (by kernel_rfl) (by kernel_rfl) (by kernel_rfl) (by kernel_rfl) (fun _ _ _ h => h) (Or.inl ⟨by rfl, ?_⟩) (unhide HS V (Kp.refl _ _)) ?_
      rotate_left 1
      · intro w0 hSw
        (try dsimp only at hSw)
        go_simp
        (try with_reducible rfl)
      try simp only [Act.put, List.setIfInBounds_toArray, List.set_cons_zero, List.set_cons_succ]
      refine wpAnyL_take3 (i := 9) (oi := { dst := some 30, op := Op.move (Operand.tmp 1), type := 3, pos := "ref.go:80", after := #[], guard := none }) (v := ?_) rfl (by kernel_rfl) (by kernel_rfl) (by kernel_rfl) (by kernel_rfl) (fun _ _ _ h => h) (Or.inl ⟨by rfl, ?_⟩) (unhide HS V (Kp.refl _ _)) ?_
      rotate_left 1
      · intro w0 hSw
        (try dsimp only at hSw)
        go_simp
        (try with_reducible rfl)
      try simp only [Act.put, List.setIfInBounds_toArray, List.set_cons_zero, List.set_cons_succ]
      refine wpAnyL_take3 (i := 10) (oi := { dst := some 31, op := Op.indexAddr 35 (Operand.tmp 29) (Operand.tmp 30), type := 0, pos := "ref.go:80", after := #[{ on := 8, ground := Ground.data }, { on := 9, ground := Ground.data }], guard := none }) (v := ?_) rfl (by kernel_rfl) (by kernel_rfl) (by kernel_rfl) (by kernel_rfl) (fun _ _ _ h => h) (Or.inl ⟨by rfl, ?_⟩) (unhide HS V (Kp.refl _ _)) ?_
      rotate_left 1
      · intro w0 hSw
        (try dsimp only at hSw)
        go_simp
        (try with_reducible rfl)
      try simp only [Act.put, List.setIfInBounds_toArray, List.set_cons_zero, List.set_cons_succ]
      refine wpAnyL_take3 (i := 11) (oi := { dst := some 32, op := Op.load 77 (Operand.tmp 31), type := 77, pos := "ref.go:80", after := #[{ on := 10, ground := Ground.data }], guard := none }) (v := ?_) rfl (by kernel_rfl) (by kernel_rfl) (by kernel_rfl) (by kernel_rfl) (fun _ _ _ h => h) (Or.inl ⟨by rfl, ?_⟩) (unhide HS V (Kp.refl _ _)) ?_
      rotate_left 1
      · intro w0 hSw
        (try dsimp only at hSw)
        go_simp
        (try with_reducible rfl)
      try simp only [Act.put, List.setIfInBounds_toArray, List.set_cons_zero, List.set_cons_succ]
      refine wpAnyL_take3 (i := 12) (oi := { dst := some 33, op := Op.move (Operand.tmp 2), type := 3, pos := "ref.go:80", after := #[], guard := none }) (v := ?_) rfl (by kernel_rfl) (by kernel_rfl) (by kernel_rfl) (by kernel_rfl) (fun _ _ _ h => h) (Or.inl ⟨by rfl, ?_⟩) (unhide HS V (Kp.refl _ _)) ?_
      rotate_left 1
      · intro w0 hSw
        (try dsimp only at hSw)
        go_simp
        (try with_reducible rfl)
      try simp only [Act.put, List.setIfInBounds_toArray, List.set_cons_zero, List.set_cons_succ]
      refine wpAnyL_one (i := 13) (o := { dst := some 34, op := Op.call { callee := Callee.value (Operand.func 37), args := #[Operand.tmp 32, Operand.tmp 33], argTypes := #[77, 3] }, type := 77, pos := "ref.go:80", after := #[{ on := 11, ground := Ground.data }, { on := 12, ground := Ground.data }], guard := none }) rfl (by kernel_rfl) (fun K hK => ?_)
      go_simp
      refine (unhide WO).mono ?_
      rintro r w5 ⟨v', rfl, r5, k5⟩
      have FN := hide (unhide FIN w5 v' k5 r5)
      have s5 := unhide HS w5 k5
      have f5 := unhide FZ w5 k5
      obtain ⟨ad5, cap5, hv5⟩ := r5.slice
      subst hv5
      clear r5 k5
      refine hK _ _ (Or.inr s5) ?_
      clear hK K
      try simp only [Act.put, List.setIfInBounds_toArray, List.set_cons_zero, List.set_cons_succ]
      refine wpAnyL_one (i := 14) (o := { dst := some 35, op := Op.indexAddr 35 (Operand.tmp 24) (Operand.tmp 25), type := 0, pos := "ref.go:80", after := #[{ on := 3, ground := Ground.data }, { on := 4, ground := Ground.data }, { on := 0, ground := Ground.phase }, { on := 1, ground := Ground.phase }, { on := 2, ground := Ground.phase }, { on := 3, ground := Ground.phase }, { on := 4, ground := Ground.phase }, { on := 5, ground := Ground.phase }, { on := 6, ground := Ground.phase }, { on := 7, ground := Ground.phase }, { on := 8, ground := Ground.phase }, { on := 9, ground := Ground.phase }, { on := 10, ground := Ground.phase }, { on := 11, ground := Ground.phase }, { on := 12, ground := Ground.phase }, { on := 13, ground := Ground.phase }], guard := none }) rfl (by kernel_rfl) (fun K hK => ?_)
      go_simp
      refine hK _ _ (Or.inr s5) ?_
      clear hK K
      try simp only [Act.put, List.setIfInBounds_toArray, List.set_cons_zero, List.set_cons_succ]
      refine wpAnyL_one (i := 15) (o := { dst := none, op := Op.store 77 (Operand.tmp 35) (Operand.tmp 34), type := 0, pos := "ref.go:80", after := #[{ on := 14, ground := Ground.data }, { on := 13, ground := Ground.data }, { on := 13, ground := Ground.chain }, { on := 0, ground := Ground.phase }, { on := 1, ground := Ground.phase }, { on := 2, ground := Ground.phase }, { on := 3, ground := Ground.phase }, { on := 4, ground := Ground.phase }, { on := 5, ground := Ground.phase }, { on := 6, ground := Ground.phase }, { on := 7, ground := Ground.phase }, { on := 8, ground := Ground.phase }, { on := 9, ground := Ground.phase }, { on := 10, ground := Ground.phase }, { on := 11, ground := Ground.phase }, { on := 12, ground := Ground.phase }, { on := 13, ground := Ground.phase }], guard := none }) rfl (by kernel_rfl) (fun K hK => ?_)
      go_simp
      refine hK _ _ (Or.inl rfl) ?_
      clear hK K
      try simp only [Act.put, List.setIfInBounds_toArray, List.set_cons_zero, List.set_cons_succ]
      refine wpAnyL_done (by kernel_rfl) ?_ _
      go_wp2
      go_meet
      obtain ⟨vs', z1⟩ := unhide FN
      exact ⟨vs', hide z1⟩
    case rest =>
      obtain ⟨vs2, HR⟩ := hcut
      obtain ⟨V2, hV2⟩ : ∃ V2, V2 = wc.drew := ⟨_, rfl⟩
      have kV2 : Kp [] wc V2 := by rw [hV2]; exact Kp.drew wc
      have b0 : V2.cell? ⟨g, 4, none⟩ = some (.int .i64 (s.c 3)) := ((unhide HR).1.kp kV2).box.cell (ntC_at _ _ _ 3 (by decide))
      have fz := ((unhide HR).1.kp kV2).box.froz 4
      have hw : IntKind.i64.wrap (s.c 3 + 1) = s.c 3 + 1 := by
        have h1 := ok.lo 3
        have h2 := ok.hi 3
        rw [IntKind.wrap_i64]
        omega
      have bx3 : CBox w1.heap.size #[.int .i64 pf, .string pb] 79 (V2.setCell ⟨g, 4, none⟩ (.int .i64 (s.c 3 + 1))) := (((unhide BX2).kp (unhide HR).2 (by simpa using fun e => lq e.symm)).kp kV2 (by simp)).kp (Kp.set _ _ _ _) (by simpa using fun e => lg e.symm)
      have FN : Hid (RnAt B (V2.setCell ⟨g, 4, none⟩ (.int .i64 (s.c 3 + 1))) g (put s (m : Int) ((row s (m : Int)).eraseIdx k) 3 1) ∧ Ks B rnT w (V2.setCell ⟨g, 4, none⟩ (.int .i64 (s.c 3 + 1)))) := hide (by
        obtain ⟨a1, a2⟩ := (unhide HR).1.count kV2 3 (by decide) (s.c 3 + 1)
        have e : put s (m : Int) ((row s (m : Int)).eraseIdx k) 3 1 = ⟨s.ws.set m (((row s (m : Int)).eraseIdx k)), up s.c 3 (s.c 3 + 1)⟩ := by unfold put; rw [Int.toNat_natCast]
        rw [e]
        refine ⟨⟨q, vs2, a1, hB⟩, (Ks.nil (unhide K12)).trans (rn_ks hn hB (F := [q, g]) (((unhide HR).2.mono (by simp)).trans (a2.mono (G := [q, g]) (by simp)) (fun _ hx => Or.inl hx)) (fun k hk => ?_))⟩
        simp at hk
        rcases hk with rfl | rfl
        · exact Or.inr (Or.inl rfl)
        · exact Or.inl rfl)
      clear HR ok hn hB hm kV2
      generalize s.c 3 = C at *
      have BX3 := hide bx3
      clear bx3
      go_upto_region 5 with fail
      refine wp_region_late (fun W => W.cell? ⟨g, 4, none⟩ = some (.int .i64 C)) 9 (by kernel_rfl) ?_
      rw [← hV2]
      clear hV2
      show wpAnyL _ _ _ _ _ _ 10 (Array.replicate 10 false) _ _
      refine wpAnyL_take3 (i := 0) (oi := { dst := some 36, op := Op.move (Operand.tmp 0), type := 27, pos := "ref.go:81", after := #[], guard := none }) (v := ?_) rfl (by kernel_rfl) (by kernel_rfl) (by kernel_rfl) (by kernel_rfl) (fun _ _ _ h => h) (Or.inl ⟨by rfl, ?_⟩) b0 ?_
      rotate_left 1
      · intro w0 hSw
        (try dsimp only at hSw)
        go_simp
        (try with_reducible rfl)
      try simp only [Act.put, List.setIfInBounds_toArray, List.set_cons_zero, List.set_cons_succ]
      refine wpAnyL_take3 (i := 1) (oi := { dst := some 37, op := Op.nilCheck (Operand.tmp 36), type := 0, pos := "ref.go:81", after := #[{ on := 0, ground := Ground.data }], guard := none }) (v := ?_) rfl (by kernel_rfl) (by kernel_rfl) (by kernel_rfl) (by kernel_rfl) (fun _ _ _ h => h) (Or.inl ⟨by rfl, ?_⟩) b0 ?_
      rotate_left 1
      · intro w0 hSw
        (try dsimp only at hSw)
        go_simp
        (try with_reducible rfl)
      try simp only [Act.put, List.setIfInBounds_toArray, List.set_cons_zero, List.set_cons_succ]
      refine wpAnyL_take3 (i := 2) (oi := { dst := some 38, op := Op.fieldAddr 37 (Operand.tmp 37) 1, type := 0, pos := "ref.go:81", after := #[{ on := 1, ground := Ground.data }], guard := none }) (v := ?_) rfl (by kernel_rfl) (by kernel_rfl) (by kernel_rfl) (by kernel_rfl) (fun _ _ _ h => h) (Or.inl ⟨by rfl, ?_⟩) b0 ?_
      rotate_left 1
      · intro w0 hSw
        (try dsimp only at hSw)
        go_simp
        (try with_reducible rfl)
      try simp only [Act.put, List.setIfInBounds_toArray, List.set_cons_zero, List.set_cons_succ]
      refine wpAnyL_take3 (i := 3) (oi := { dst := some 39, op := Op.indexAddr 33 (Operand.tmp 38) (Operand.const (Value.int IntKind.i64 3)), type := 0, pos := "ref.go:81", after := #[{ on := 2, ground := Ground.data }], guard := none }) (v := ?_) rfl (by kernel_rfl) (by kernel_rfl) (by kernel_rfl) (by kernel_rfl) (fun _ _ _ h => h) (Or.inl ⟨by rfl, ?_⟩) b0 ?_
      rotate_left 1
      · intro w0 hSw
        (try dsimp only at hSw)
        go_simp
        (try with_reducible rfl)
      try simp only [Act.put, List.setIfInBounds_toArray, List.set_cons_zero, List.set_cons_succ]
      refine wpAnyL_take3 (i := 4) (oi := { dst := some 40, op := Op.load 3 (Operand.tmp 39), type := 3, pos := "ref.go:81", after := #[{ on := 3, ground := Ground.data }], guard := none }) (v := ?_) rfl (by kernel_rfl) (by kernel_rfl) (by kernel_rfl) (by kernel_rfl) (fun _ _ _ h => h) (Or.inl ⟨by rfl, ?_⟩) b0 ?_
      rotate_left 1
      · intro w0 hSw
        (try dsimp only at hSw)
        go_simp
        (try with_reducible rfl)
      try simp only [Act.put, List.setIfInBounds_toArray, List.set_cons_zero, List.set_cons_succ]
      refine wpAnyL_take3 (i := 5) (oi := { dst := some 41, op := Op.binOp BinOp.add 3 (Operand.tmp 40) (Operand.const (Value.int IntKind.i64 1)) 3, type := 3, pos := "ref.go:81", after := #[{ on := 4, ground := Ground.data }], guard := none }) (v := ?_) rfl (by kernel_rfl) (by kernel_rfl) (by kernel_rfl) (by kernel_rfl) (fun _ _ _ h => h) (Or.inl ⟨by rfl, ?_⟩) b0 ?_
      rotate_left 1
      · intro w0 hSw
        (try dsimp only at hSw)
        go_simp
        (try with_reducible rfl)
      try simp only [Act.put, List.setIfInBounds_toArray, List.set_cons_zero, List.set_cons_succ]
      refine wpAnyL_one (i := 6) (o := { dst := some 42, op := Op.nilCheck (Operand.tmp 36), type := 0, pos := "ref.go:81", after := #[{ on := 0, ground := Ground.data }], guard := none }) rfl (by kernel_rfl) (fun K hK => ?_)
      go_simp
      refine hK _ _ (Or.inr b0) ?_
      clear hK K
      try simp only [Act.put, List.setIfInBounds_toArray, List.set_cons_zero, List.set_cons_succ]
      refine wpAnyL_one (i := 7) (o := { dst := some 43, op := Op.fieldAddr 37 (Operand.tmp 42) 1, type := 0, pos := "ref.go:81", after := #[{ on := 6, ground := Ground.data }], guard := none }) rfl (by kernel_rfl) (fun K hK => ?_)
      go_simp
      refine hK _ _ (Or.inr b0) ?_
      clear hK K
      try simp only [Act.put, List.setIfInBounds_toArray, List.set_cons_zero, List.set_cons_succ]
      refine wpAnyL_one (i := 8) (o := { dst := some 44, op := Op.indexAddr 33 (Operand.tmp 43) (Operand.const (Value.int IntKind.i64 3)), type := 0, pos := "ref.go:81", after := #[{ on := 7, ground := Ground.data }, { on := 0, ground := Ground.phase }, { on := 1, ground := Ground.phase }, { on := 2, ground := Ground.phase }, { on := 3, ground := Ground.phase }, { on := 4, ground := Ground.phase }, { on := 5, ground := Ground.phase }], guard := none }) rfl (by kernel_rfl) (fun K hK => ?_)
      go_simp
      refine hK _ _ (Or.inr b0) ?_
      clear hK K
      try simp only [Act.put, List.setIfInBounds_toArray, List.set_cons_zero, List.set_cons_succ]
      refine wpAnyL_one (i := 9) (o := { dst := none, op := Op.store 3 (Operand.tmp 44) (Operand.tmp 41), type := 0, pos := "ref.go:81", after := #[{ on := 8, ground := Ground.data }, { on := 5, ground := Ground.data }, { on := 0, ground := Ground.phase }, { on := 1, ground := Ground.phase }, { on := 2, ground := Ground.phase }, { on := 3, ground := Ground.phase }, { on := 4, ground := Ground.phase }, { on := 5, ground := Ground.phase }], guard := none }) rfl (by kernel_rfl) (fun K hK => ?_)
      go_simp
      refine hK _ _ (Or.inl rfl) ?_
      clear hK K
      try simp only [Act.put, List.setIfInBounds_toArray, List.set_cons_zero, List.set_cons_succ]
      refine wpAnyL_done (by kernel_rfl) ?_ _
      have KB := unhide BX3
      have e0 := KB.cell (i := 0) rfl
      have e1 := KB.cell (i := 1) rfl
      clear KB BX3
      have FN2 : Hid (∀ n, RnAt B ((V2.setCell ⟨g, 4, none⟩ (.int .i64 (C + 1))).drewN n) g (put s (m : Int) ((row s (m : Int)).eraseIdx k) 3 1) ∧ Ks B rnT w ((V2.setCell ⟨g, 4, none⟩ (.int .i64 (C + 1))).drewN n)) := hide (fun n => by
        obtain ⟨⟨q', vs', a1, a2⟩, a3⟩ := unhide FN
        exact ⟨⟨q', vs', a1.kp (Kp.drewQ _ _), a2⟩, a3.trans (Ks.nil (Kp.drewQ _ _))⟩)
      clear FN
      generalize V2.setCell ⟨g, 4, none⟩ (.int .i64 (C + 1)) = Y at *
      go_wp2
      go_quiet (fail)
      go_wp2
      go_ret3
      exact ⟨rfl, unhide FN2 _⟩
  · simp only [hf, if_false]
    have h1 : taF s t i = 0 := by unfold taF; rw [if_neg hf]
    have h2 : taB s t i = ⟨#[]⟩ := by unfold taB; rw [if_neg hf]
    rw [h1, h2] at GE
    clear hn0 h1 h2
    generalize fiE s t i = E at *
    go_enter Try.func20, Try.ntmps20
    go_wp2_with fail
    refine (unhide GE).mono ?_
    rintro r w1 ⟨rfl, hk1⟩
    have k2 := kp_tr hk1 (Kp.alloc w1 (.cells #[.int .i64 0, .string ⟨#[]⟩] 79))
    have HS : Hid (RnAt B (w1.alloc (.cells #[.int .i64 0, .string ⟨#[]⟩] 79)) g s ∧ Ks B rnT w (w1.alloc (.cells #[.int .i64 0, .string ⟨#[]⟩] 79))) := hide ⟨⟨q, vs, (unhide H0).kp k2, hB⟩, Ks.nil k2⟩
    clear GE H0 k2 hk1
    go_wp2
    go_ret3
    exact ⟨rfl, unhide HS⟩
end Go.Proofs.Ytledoopfffhigaa
