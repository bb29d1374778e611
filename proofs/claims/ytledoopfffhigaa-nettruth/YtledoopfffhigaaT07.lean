/-
  A net: Copy.
  A net: Clear.
-/
import Derived.Test.YtledoopfffhigaaT06
namespace Go.Proofs.Ytledoopfffhigaa
open Go.RowKit Nt

set_option maxHeartbeats 2000000 in
set_option maxRecDepth 100000 in
theorem ncopy_any (B b : Nat) (s : St) (t i : Int) (w : World) (M : Int) (h : NtAt B w b s) (ok : Ok M s) (hM : M ≤ 2305843009213693952) :
    Calls Try.prog 13 #[.pointer (some ⟨b, 0, none⟩), .int .i64 t, .int .i64 i] w fun e w' => e = .returned (.int .i64 (coE s t i)) ∧ NtAt B w' b (coS s t i) ∧ Ks B ntT w w' := by
  obtain ⟨q, vs, hn, hB⟩ := h
  have FI := hide (fun W (hW : NtV W b q vs s) => nfind_any b q vs s t i W hW)
  have HM := hide hn
  have HS : Hid (NtAt B w b s ∧ Ks B ntT w w) := hide (nt_same hn hB (Kp.refl _ _))
  unfold coS coE
  by_cases hf : fiE s t i = 0
  · have hnth := (nth_mem hf).2
    obtain ⟨m, k, rfl, hm, rfl, hk⟩ := fi_at hf
    rw [hf] at FI
    simp only [hf, if_true]
    have hp : nth s (m : Int) (k : Int) = (row s (m : Int))[k] := by
      obtain ⟨k', e, hk', e2⟩ := hnth
      obtain rfl : k' = k := by omega
      exact e2
    rw [hp]
    have c0 := hn.cell
    obtain ⟨ad, cap, c1, hv, hr⟩ := hn.at m hm
    have hmi : (m : Int) < (s.ws.length : Int) := by omega
    have WF := hide (fun W => wfull_any ad (row s (m : Int)).length cap W)
    have hrl := (ok.row (m : Int)).1
    obtain ⟨g, rfl⟩ : ∃ g, ad = some ⟨g, 0, none⟩ := by
      rcases hr.form with ⟨_, e⟩ | ⟨g, c, e, _⟩
      · rw [e] at hk; cases hk
      · injection e with e1; exact ⟨g, e1⟩
    by_cases hfl : (row s (m : Int)).length = 4096
    · simp only [hfl, if_true, show ¬ ((2 : Int) = 0) by decide, if_false]
      rw [hfl] at c1 WF
      simp only [decide_true] at WF
      clear hn hf hr hv hrl hp hnth
      generalize s.ws.length = n at *
      go_enter Try.func13, Try.ntmps13
      go_wp2_with fail
      refine (unhide FI _ (unhide HM)).mono ?_
      rintro r w1 ⟨rfl, rfl⟩
      go_wp2_with fail
      refine (unhide WF _).mono ?_
      rintro r w1 ⟨rfl, rfl⟩
      go_wp2
      go_ret
      exact ⟨rfl, unhide HS⟩
    · simp only [hfl, if_false, if_true]
      rw [decide_eq_false hfl] at WF
      have hki : (k : Int) < ((row s (m : Int)).length : Int) := by omega
      obtain ⟨d1, d2⟩ := hr.cell k hk
      have PUT : Hid (∀ W, Kp [] w.drew W → Calls Try.prog 28 #[.pointer (some ⟨q, m, none⟩), .agg (pkA (row s (m : Int))[k])] W fun e w' => (∃ v, e = .returned v) ∧ (w'.cell? ⟨b, 0, none⟩ = some (.slice (some ⟨q, 0, none⟩) s.ws.length s.ws.length)) ∧ ∃ vs', NtV w' b q vs' ⟨s.ws.set m (row s (m : Int) ++ [(row s (m : Int))[k]]), s.c⟩ ∧ Kp (q :: (Value.slice (some ⟨g, 0, none⟩) (row s (m : Int)).length cap).ownBlock.toList) w w' ∧ ∀ k ∈ ntF b q vs', k ∈ ntF b q vs ∨ w.heap.size ≤ k) := hide (fun W hk => by
        have hk0 : Kp [] w W := kp_tr (Kp.drew w) hk
        have hW := hn.kp hk0 (by simp)
        have hvs : vs.toArray[m]? = some (.slice (some ⟨g, 0, none⟩) (row s (m : Int)).length cap) := by simpa using hv
        refine (wput_any q m vs.toArray _ cap (row s (m : Int)) _ W hW.row hvs (hr.kp hk0 (by simp)) (by omega)).mono ?_
        rintro e w' ⟨he, hw⟩
        obtain ⟨vs', a1, a2, a3⟩ := hW.way hv hw
        refine ⟨he, by have := a1.cell; rwa [show (St.ws ⟨s.ws.set m (row s (m : Int) ++ [(row s (m : Int))[k]]), s.c⟩).length = s.ws.length by simp] at this, vs', a1, (hk0.mono (by simp)).trans a2 (fun _ hx => Or.inl hx), fun k hk1 => (a3 k hk1).imp_right (fun h1 => by have := hk0.size; omega)⟩)
      have FIN : Hid (∀ w3 vs' w5, NtV w3 b q vs' ⟨s.ws.set m (row s (m : Int) ++ [(row s (m : Int))[k]]), s.c⟩ → Kp (q :: (Value.slice (some ⟨g, 0, none⟩) (row s (m : Int)).length cap).ownBlock.toList) w w3 → (∀ k ∈ ntF b q vs', k ∈ ntF b q vs ∨ w.heap.size ≤ k) → NtV w5 b q vs' ⟨s.ws.set m (row s (m : Int) ++ [(row s (m : Int))[k]]), up s.c 2 (s.c 2 + 1)⟩ → Kp [b] w3 w5 → NtAt B w5 b (put s (m : Int) (row s (m : Int) ++ [(row s (m : Int))[k]]) 2 1) ∧ Ks B ntT w w5) := hide (fun w3 vs' w5 a1 a2 a3 a4 a5 => nt_put hn hB hv a2 a3 a4 a5)
      have RAI : Hid (∀ w3 vs', NtV w3 b q vs' ⟨s.ws.set m (row s (m : Int) ++ [(row s (m : Int))[k]]), s.c⟩ → Calls Try.prog 30 #[.pointer (some ⟨b, 1, none⟩), .int .i64 2, .int .i64 1] w3 fun e w' => (∃ v, e = .returned v) ∧ NtV w' b q vs' ⟨s.ws.set m (row s (m : Int) ++ [(row s (m : Int))[k]]), up s.c 2 (s.c 2 + 1)⟩ ∧ Kp [b] w3 w') := hide (fun w3 vs' a1 => nraise_any b q vs' _ 2 1 w3 a1 (by decide) (ok.lo 2) (by decide) (by have := ok.hi 2; show s.c 2 + 1 ≤ _; omega))
      have HSC : Hid (∀ W, Kp [] w.drew W → W.cell? ⟨b, 0, none⟩ = some (.slice (some ⟨q, 0, none⟩) s.ws.length s.ws.length)) := hide (fun W hk => hk.cell (show w.drew.cell? _ = _ from c0) (by simp))
      clear hn hf hr hv HS ok hrl hB hm hp hnth
      generalize s.ws.length = n at *
      generalize put s (m : Int) (row s (m : Int) ++ [(row s (m : Int))[k]]) 2 1 = S2 at *
      generalize row s (m : Int) ++ [(row s (m : Int))[k]] = R2 at *
      generalize (row s (m : Int))[k] = p at *
      generalize (row s (m : Int)).length = L at *
      obtain ⟨fr, bb⟩ := p
      unfold pkA at PUT
      dsimp only at PUT d1 d2
      have cS : w.drew.cell? ⟨b, 0, none⟩ = some (.slice (some ⟨q, 0, none⟩) n n) ∧ w.drew.cell? ⟨q, m, none⟩ = some (.slice (some ⟨g, 0, none⟩) L cap) ∧ w.drew.cell? ⟨g, k * 2, none⟩ = some (.int .i64 fr) ∧ w.drew.cell? ⟨g, k * 2 + 1, none⟩ = some (.string bb) := ⟨c0, c1, d1, d2⟩
      go_enter Try.func13, Try.ntmps13
      go_wp2_with fail
      refine (unhide FI _ (unhide HM)).mono ?_
      rintro r w1 ⟨rfl, rfl⟩
      go_wp2_with fail
      refine (unhide WF _).mono ?_
      rintro r w1 ⟨rfl, rfl⟩
      clear WF HM FI d1 d2
      go_upto_region 6 with fail
      refine wp_region_late (fun W => W.cell? ⟨b, 0, none⟩ = some (.slice (some ⟨q, 0, none⟩) n n) ∧ W.cell? ⟨q, m, none⟩ = some (.slice (some ⟨g, 0, none⟩) L cap) ∧ W.cell? ⟨g, k * 2, none⟩ = some (.int .i64 fr) ∧ W.cell? ⟨g, k * 2 + 1, none⟩ = some (.string bb)) 16 (by kernel_rfl) ?_
      show wpAnyL _ _ _ _ _ _ 17 (Array.replicate 17 false) _ _
      refine wpAnyL_take3 (i := 0) (oi := { dst := some 23, op := Op.move (Operand.tmp 0), type := 23, pos := "net.go:68", after := #[], guard := none }) (v := ?_) rfl (by kernel_rfl) (by kernel_rfl) (by kernel_rfl) (by kernel_rfl) (fun _ _ _ h => h) (Or.inl ⟨by rfl, ?_⟩) cS ?_
      rotate_left 1
      · intro w0 hSw
        (try dsimp only at hSw)
        go_simp
        (try with_reducible rfl)
      try simp only [Act.put, List.setIfInBounds_toArray, List.set_cons_zero, List.set_cons_succ]
      refine wpAnyL_take3 (i := 1) (oi := { dst := some 24, op := Op.nilCheck (Operand.tmp 23), type := 0, pos := "net.go:68", after := #[{ on := 0, ground := Ground.data }], guard := none }) (v := ?_) rfl (by kernel_rfl) (by kernel_rfl) (by kernel_rfl) (by kernel_rfl) (fun _ _ _ h => h) (Or.inl ⟨by rfl, ?_⟩) cS ?_
      rotate_left 1
      · intro w0 hSw
        (try dsimp only at hSw)
        go_simp
        (try with_reducible rfl)
      try simp only [Act.put, List.setIfInBounds_toArray, List.set_cons_zero, List.set_cons_succ]
      refine wpAnyL_take3 (i := 2) (oi := { dst := some 25, op := Op.fieldAddr 65 (Operand.tmp 24) 0, type := 0, pos := "net.go:68", after := #[{ on := 1, ground := Ground.data }], guard := none }) (v := ?_) rfl (by kernel_rfl) (by kernel_rfl) (by kernel_rfl) (by kernel_rfl) (fun _ _ _ h => h) (Or.inl ⟨by rfl, ?_⟩) cS ?_
      rotate_left 1
      · intro w0 hSw
        (try dsimp only at hSw)
        go_simp
        (try with_reducible rfl)
      try simp only [Act.put, List.setIfInBounds_toArray, List.set_cons_zero, List.set_cons_succ]
      refine wpAnyL_take3 (i := 3) (oi := { dst := some 26, op := Op.load 56 (Operand.tmp 25), type := 56, pos := "net.go:68", after := #[{ on := 2, ground := Ground.data }], guard := none }) (v := ?_) rfl (by kernel_rfl) (by kernel_rfl) (by kernel_rfl) (by kernel_rfl) (fun _ _ _ h => h) (Or.inl ⟨by rfl, ?_⟩) cS ?_
      rotate_left 1
      · intro w0 hSw
        (try dsimp only at hSw)
        go_simp
        (try with_reducible rfl)
      try simp only [Act.put, List.setIfInBounds_toArray, List.set_cons_zero, List.set_cons_succ]
      refine wpAnyL_take3 (i := 4) (oi := { dst := some 27, op := Op.move (Operand.tmp 1), type := 3, pos := "net.go:68", after := #[], guard := none }) (v := ?_) rfl (by kernel_rfl) (by kernel_rfl) (by kernel_rfl) (by kernel_rfl) (fun _ _ _ h => h) (Or.inl ⟨by rfl, ?_⟩) cS ?_
      rotate_left 1
      · intro w0 hSw
        (try dsimp only at hSw)
        go_simp
        (try with_reducible rfl)
      try simp only [Act.put, List.setIfInBounds_toArray, List.set_cons_zero, List.set_cons_succ]
      refine wpAnyL_take3 (i := 5) (oi := { dst := some 28, op := Op.indexAddr 56 (Operand.tmp 26) (Operand.tmp 27), type := 0, pos := "net.go:68", after := #[{ on := 3, ground := Ground.data }, { on := 4, ground := Ground.data }], guard := none }) (v := ?_) rfl (by kernel_rfl) (by kernel_rfl) (by kernel_rfl) (by kernel_rfl) (fun _ _ _ h => h) (Or.inl ⟨by rfl, ?_⟩) cS ?_
      rotate_left 1
      · intro w0 hSw
        (try dsimp only at hSw)
        go_simp
        (try with_reducible rfl)
      try simp only [Act.put, List.setIfInBounds_toArray, List.set_cons_zero, List.set_cons_succ]
      refine wpAnyL_take3 (i := 6) (oi := { dst := some 29, op := Op.move (Operand.tmp 0), type := 23, pos := "net.go:68", after := #[], guard := none }) (v := ?_) rfl (by kernel_rfl) (by kernel_rfl) (by kernel_rfl) (by kernel_rfl) (fun _ _ _ h => h) (Or.inl ⟨by rfl, ?_⟩) cS ?_
      rotate_left 1
      · intro w0 hSw
        (try dsimp only at hSw)
        go_simp
        (try with_reducible rfl)
      try simp only [Act.put, List.setIfInBounds_toArray, List.set_cons_zero, List.set_cons_succ]
      refine wpAnyL_take3 (i := 7) (oi := { dst := some 30, op := Op.nilCheck (Operand.tmp 29), type := 0, pos := "net.go:68", after := #[{ on := 6, ground := Ground.data }], guard := none }) (v := ?_) rfl (by kernel_rfl) (by kernel_rfl) (by kernel_rfl) (by kernel_rfl) (fun _ _ _ h => h) (Or.inl ⟨by rfl, ?_⟩) cS ?_
      rotate_left 1
      · intro w0 hSw
        (try dsimp only at hSw)
        go_simp
        (try with_reducible rfl)
      try simp only [Act.put, List.setIfInBounds_toArray, List.set_cons_zero, List.set_cons_succ]
      refine wpAnyL_take3 (i := 8) (oi := { dst := some 31, op := Op.fieldAddr 65 (Operand.tmp 30) 0, type := 0, pos := "net.go:68", after := #[{ on := 7, ground := Ground.data }], guard := none }) (v := ?_) rfl (by kernel_rfl) (by kernel_rfl) (by kernel_rfl) (by kernel_rfl) (fun _ _ _ h => h) (Or.inl ⟨by rfl, ?_⟩) cS ?_
      rotate_left 1
      · intro w0 hSw
        (try dsimp only at hSw)
        go_simp
        (try with_reducible rfl)
      try simp only [Act.put, List.setIfInBounds_toArray, List.set_cons_zero, List.set_cons_succ]
      refine wpAnyL_take3 (i := 9) (oi := { dst := some 32, op := Op.load 56 (Operand.tmp 31), type := 56, pos := "net.go:68", after := #[{ on := 8, ground := Ground.data }], guard := none }) (v := ?_) rfl (by kernel_rfl) (by kernel_rfl) (by kernel_rfl) (by kernel_rfl) (fun _ _ _ h => h) (Or.inl ⟨by rfl, ?_⟩) cS ?_
      rotate_left 1
      · intro w0 hSw
        (try dsimp only at hSw)
        go_simp
        (try with_reducible rfl)
      try simp only [Act.put, List.setIfInBounds_toArray, List.set_cons_zero, List.set_cons_succ]
      refine wpAnyL_take3 (i := 10) (oi := { dst := some 33, op := Op.move (Operand.tmp 1), type := 3, pos := "net.go:68", after := #[], guard := none }) (v := ?_) rfl (by kernel_rfl) (by kernel_rfl) (by kernel_rfl) (by kernel_rfl) (fun _ _ _ h => h) (Or.inl ⟨by rfl, ?_⟩) cS ?_
      rotate_left 1
      · intro w0 hSw
        (try dsimp only at hSw)
        go_simp
        (try with_reducible rfl)
      try simp only [Act.put, List.setIfInBounds_toArray, List.set_cons_zero, List.set_cons_succ]
      refine wpAnyL_take3 (i := 11) (oi := { dst := some 34, op := Op.indexAddr 56 (Operand.tmp 32) (Operand.tmp 33), type := 0, pos := "net.go:68", after := #[{ on := 9, ground := Ground.data }, { on := 10, ground := Ground.data }], guard := none }) (v := ?_) rfl (by kernel_rfl) (by kernel_rfl) (by kernel_rfl) (by kernel_rfl) (fun _ _ _ h => h) (Or.inl ⟨by rfl, ?_⟩) cS ?_
      rotate_left 1
      · intro w0 hSw
        (try dsimp only at hSw)
        go_simp
        (try with_reducible rfl)
      try simp only [Act.put, List.setIfInBounds_toArray, List.set_cons_zero, List.set_cons_succ]
      refine wpAnyL_take3 (i := 12) (oi := { dst := some 35, op := Op.load 68 (Operand.tmp 34), type := 68, pos := "net.go:68", after := #[{ on := 11, ground := Ground.data }], guard := none }) (v := ?_) rfl (by kernel_rfl) (by kernel_rfl) (by kernel_rfl) (by kernel_rfl) (fun _ _ _ h => h) (Or.inl ⟨by rfl, ?_⟩) cS ?_
      rotate_left 1
      · intro w0 hSw
        (try dsimp only at hSw)
        go_simp
        (try with_reducible rfl)
      try simp only [Act.put, List.setIfInBounds_toArray, List.set_cons_zero, List.set_cons_succ]
      refine wpAnyL_take3 (i := 13) (oi := { dst := some 36, op := Op.move (Operand.tmp 2), type := 3, pos := "net.go:68", after := #[], guard := none }) (v := ?_) rfl (by kernel_rfl) (by kernel_rfl) (by kernel_rfl) (by kernel_rfl) (fun _ _ _ h => h) (Or.inl ⟨by rfl, ?_⟩) cS ?_
      rotate_left 1
      · intro w0 hSw
        (try dsimp only at hSw)
        go_simp
        (try with_reducible rfl)
      try simp only [Act.put, List.setIfInBounds_toArray, List.set_cons_zero, List.set_cons_succ]
      refine wpAnyL_take3 (i := 14) (oi := { dst := some 37, op := Op.indexAddr 68 (Operand.tmp 35) (Operand.tmp 36), type := 0, pos := "net.go:68", after := #[{ on := 12, ground := Ground.data }, { on := 13, ground := Ground.data }], guard := none }) (v := ?_) rfl (by kernel_rfl) (by kernel_rfl) (by kernel_rfl) (by kernel_rfl) (fun _ _ _ h => h) (Or.inl ⟨by rfl, ?_⟩) cS ?_
      rotate_left 1
      · intro w0 hSw
        (try dsimp only at hSw)
        go_simp
        (try with_reducible rfl)
      try simp only [Act.put, List.setIfInBounds_toArray, List.set_cons_zero, List.set_cons_succ]
      refine wpAnyL_take3 (i := 15) (oi := { dst := some 38, op := Op.load 72 (Operand.tmp 37), type := 72, pos := "net.go:68", after := #[{ on := 14, ground := Ground.data }], guard := none }) (v := ?_) rfl (by kernel_rfl) (by kernel_rfl) (by kernel_rfl) (by kernel_rfl) (fun _ _ _ h => h) (Or.inl ⟨by rfl, ?_⟩) cS ?_
      rotate_left 1
      · intro w0 hSw
        (try dsimp only at hSw)
        go_simp
        (try with_reducible rfl)
      try simp only [Act.put, List.setIfInBounds_toArray, List.set_cons_zero, List.set_cons_succ]
      refine wpAnyL_one (i := 16) (o := { dst := some 39, op := Op.call { callee := Callee.value (Operand.func 28), args := #[Operand.tmp 28, Operand.tmp 38], argTypes := #[68, 72] }, type := 0, pos := "net.go:68", after := #[{ on := 5, ground := Ground.data }, { on := 15, ground := Ground.data }], guard := none }) rfl (by kernel_rfl) (fun K hK => ?_)
      go_simp
      refine (unhide PUT _ (Kp.refl _ _)).mono ?_
      rintro r w3 ⟨⟨v3, rfl⟩, hc3, vs3, a1, a2, a3⟩
      have A1 := hide a1
      have A2 := hide a2
      have A3 := hide a3
      clear a1 a2 a3 PUT
      refine hK _ _ (Or.inl rfl) ?_
      clear hK K
      try simp only [Act.put, List.setIfInBounds_toArray, List.set_cons_zero, List.set_cons_succ]
      refine wpAnyL_done (by kernel_rfl) ?_ _
      clear cS
      go_wp2_with fail
      refine (unhide RAI _ _ (unhide A1)).mono ?_
      rintro r w5 ⟨⟨v5, rfl⟩, b1, b2⟩
      have HFI := hide (unhide FIN _ _ _ (unhide A1) (unhide A2) (unhide A3) b1 b2)
      clear b1 b2 A1 A2 A3 RAI FIN
      go_wp2
      go_ret
      exact ⟨rfl, unhide HFI⟩
  · simp only [hf, if_false]
    clear hn
    generalize fiE s t i = E at *
    go_enter Try.func13, Try.ntmps13
    go_wp2_with fail
    refine (unhide FI _ (unhide HM)).mono ?_
    rintro r w1 ⟨rfl, rfl⟩
    go_wp2
    go_ret
    exact ⟨rfl, unhide HS⟩
end Go.Proofs.Ytledoopfffhigaa
namespace Go.Proofs.Ytledoopfffhigaa
open Go.RowKit Nt

/-- The ways while a node is being cleared: of the first j ones what stays. -/
def cw (x : Int) (m : Nat) (ws : List (List Pk)) (j : Nat) : List (List Pk) := (clr x 0 ws).take j ++ (ws.set m []).drop j
theorem cw_len (x : Int) (m : Nat) (ws : List (List Pk)) (j : Nat) : (cw x m ws j).length = ws.length := by
  unfold cw
  rw [List.length_append, List.length_take, clr_len, List.length_drop, List.length_set]
  omega
theorem cw_zero (x : Int) (m : Nat) (ws : List (List Pk)) : cw x m ws 0 = ws.set m [] := by unfold cw; simp
theorem cw_all (x : Int) (m : Nat) (ws : List (List Pk)) : cw x m ws ws.length = clr x 0 ws := by
  unfold cw
  rw [List.take_of_length_le (by rw [clr_len]; exact Nat.le_refl _), List.drop_of_length_le (by rw [List.length_set]; exact Nat.le_refl _), List.append_nil]
theorem cw_at (x : Int) (m : Nat) (ws : List (List Pk)) (j : Nat) (hj : j < ws.length) : ∃ h : j < (cw x m ws j).length, (cw x m ws j)[j] = if m = j then [] else ws[j] := by
  refine ⟨by rw [cw_len]; exact hj, ?_⟩
  have hl : ((clr x 0 ws).take j).length = j := by rw [List.length_take, clr_len]; omega
  have : (cw x m ws j)[j]? = (ws.set m [])[j]? := by
    unfold cw
    rw [List.getElem?_append_right (by omega), hl, Nat.sub_self, List.getElem?_drop, Nat.add_zero]
  rw [List.getElem?_eq_getElem (by rw [cw_len]; exact hj), List.getElem?_eq_getElem (by rw [List.length_set]; exact hj)] at this
  injection this with e
  rw [e, List.getElem_set]
theorem cw_next (x : Int) (m : Nat) (hx : x = (m : Int)) (ws : List (List Pk)) (j : Nat) (hj : j < ws.length) (h : j < (cw x m ws j).length) : cw x m ws (j + 1) = (cw x m ws j).set j (((cw x m ws j)[j]).filter (stays x)) := by
  obtain ⟨_, e⟩ := cw_at x m ws j hj
  rw [e]
  have hc := clr_get x 0 ws j ws[j] (List.getElem?_eq_getElem hj)
  rw [Nat.zero_add] at hc
  have hjc : j < (clr x 0 ws).length := by rw [clr_len]; exact hj
  have hcj : (clr x 0 ws)[j] = (if m = j then [] else ws[j]).filter (stays x) := by
    rw [List.getElem?_eq_getElem hjc] at hc
    injection hc with hc
    rw [hc]
    by_cases hm : m = j
    · rw [if_pos (by omega), if_pos hm]; rfl
    · rw [if_neg (by omega), if_neg hm]; rfl
  have hl : ((clr x 0 ws).take j).length = j := by rw [List.length_take, clr_len]; omega
  have hd : (ws.set m []).drop j = (ws.set m [])[j]'(by rw [List.length_set]; exact hj) :: (ws.set m []).drop (j + 1) := List.drop_eq_getElem_cons (by rw [List.length_set]; exact hj)
  unfold cw
  rw [List.take_succ_eq_append_getElem hjc, List.append_assoc, List.set_append_right _ _ (by omega), hl, Nat.sub_self, hd, List.set_cons_zero, hcj]
  rfl
/-- A way cleared in the middle. -/
theorem ncof_any (b q : Nat) (vs : List Value) (s : St) (j : Nat) (x : Int) (w : World) (h : NtV w b q vs s) (hj : j < s.ws.length) :
    Calls Try.prog 33 #[.pointer (some ⟨q, j, none⟩), .int .i64 x] w fun e w' => e = .returned (.int .i64 (((s.ws[j]).length : Int) - (((s.ws[j]).filter (stays x)).length : Int))) ∧ ∃ vs', NtV w' b q vs' ⟨s.ws.set j ((s.ws[j]).filter (stays x)), s.c⟩ ∧ Kp (ntF b q vs) w w' ∧ ∀ k ∈ ntF b q vs', k ∈ ntF b q vs ∨ w.heap.size ≤ k := by
  obtain ⟨ad, cap, c1, hv, hr⟩ := h.at j hj
  rw [row_at hj] at hv hr
  refine (wclearOf_any q j vs.toArray _ _ x w h.row (by simpa using hv) hr).mono ?_
  rintro e w' ⟨he, hw⟩
  obtain ⟨vs', a1, a2, a3⟩ := h.way hv hw
  refine ⟨he, vs', a1, a2.mono (fun k hk => ?_), a3⟩
  rcases List.mem_cons.1 hk with rfl | hk
  · exact mem_ntF.2 (Or.inr (Or.inl rfl))
  · exact mem_ntF.2 (Or.inr (Or.inr ⟨_, List.mem_of_getElem? hv, by simpa using hk⟩))
theorem ncl_any (b q : Nat) (vs : List Value) (s : St) (j : Nat) (w : World) (h : NtV w b q vs s) (hj : j < s.ws.length) :
    Calls Try.prog 32 #[.pointer (some ⟨q, j, none⟩)] w fun e w' => e = .returned (.int .i64 ((s.ws[j]).length : Int)) ∧ ∃ vs', NtV w' b q vs' ⟨s.ws.set j [], s.c⟩ ∧ Kp (ntF b q vs) w w' ∧ ∀ k ∈ ntF b q vs', k ∈ ntF b q vs ∨ w.heap.size ≤ k := by
  obtain ⟨ad, cap, c1, hv, hr⟩ := h.at j hj
  rw [row_at hj] at hv
  refine (wclear_any q j vs.toArray ad cap _ w h.row (by simpa using hv)).mono ?_
  rintro e w' ⟨he, hw⟩
  obtain ⟨vs', a1, a2, a3⟩ := h.way hv hw
  refine ⟨he, vs', a1, a2.mono (fun k hk => ?_), a3⟩
  rcases List.mem_cons.1 hk with rfl | hk
  · exact mem_ntF.2 (Or.inr (Or.inl rfl))
  · exact mem_ntF.2 (Or.inr (Or.inr ⟨_, List.mem_of_getElem? hv, by simpa using hk⟩))
theorem ks_nt {B : Nat} {w w' : World} {b q : Nat} {vs vs' : List Value} {s s' : St} (h : NtV w b q vs s) (hB : ∀ k ∈ ntF b q vs, B ≤ k) (h' : NtV w' b q vs' s') (hk : Kp (ntF b q vs) w w') (hn : ∀ k ∈ ntF b q vs', k ∈ ntF b q vs ∨ w.heap.size ≤ k) : (∀ k ∈ ntF b q vs', B ≤ k) ∧ Ks B ntT w w' := by
  obtain ⟨_, a2⟩ := nt_step h hB h' hk (fun _ hx => Or.inl hx) hn
  have hbs : B ≤ w.heap.size := by
    have h1 := hB b (mem_ntF.2 (Or.inl rfl))
    have h2 := h.lt b (mem_ntF.2 (Or.inl rfl))
    omega
  exact ⟨fun k hk1 => by
    rcases hn k hk1 with h1 | h1
    · exact hB k h1
    · omega, a2⟩
/-- The state of a clearing. -/
structure Cg (B : Nat) (w : World) (b : Nat) (s : St) (x : Int) (m j : Nat) (G : Int) (wr : World) : Prop where
  at_ : NtAt B wr b ⟨cw x m s.ws j, s.c⟩
  ks : Ks B ntT w wr
  g : G = (tot s.ws : Int) - (tot (cw x m s.ws j) : Int)
set_option maxHeartbeats 2000000 in
set_option maxRecDepth 100000 in
theorem nclear_any (B b : Nat) (s : St) (x : Int) (w : World) (M : Int) (h : NtAt B w b s) (ok : Ok M s) (hM : M ≤ 2305843009213693952) :
    Calls Try.prog 14 #[.pointer (some ⟨b, 0, none⟩), .int .i64 x] w fun e w' => e = .returned (.tuple #[.int .i64 (clN s x), .int .i64 (wyE s x)]) ∧ NtAt B w' b (clS s x) ∧ Ks B ntT w w' := by
  obtain ⟨q, vs, hn, hB⟩ := h
  have HA := hide (fun W (hW : NtV W b q vs s) => nhas_any b q vs s x W hW)
  have HM := hide hn
  have hclb := clN_bd ok x
  unfold clS wyE
  cases ht : hasN s.ws.length x with
  | false =>
    have HS : Hid (NtAt B w b s ∧ Ks B ntT w w) := hide (nt_same hn hB (Kp.refl _ _))
    have hcl : clN s x = 0 := by unfold clN; rw [ht]; rfl
    rw [ht] at HA
    rw [hcl]
    simp only [Bool.false_eq_true, if_false]
    clear hn hclb hcl
    go_enter Try.func14, Try.ntmps14
    go_wp2_with fail
    refine (unhide HA _ (unhide HM)).mono ?_
    rintro r w1 ⟨rfl, rfl⟩
    go_wp2
    go_ret2
    exact ⟨rfl, unhide HS⟩
  | true =>
    have hcl : clN s x = (tot s.ws : Int) - (tot (clr x 0 s.ws) : Int) := by unfold clN; rw [ht]; rfl
    rw [ht] at HA
    obtain ⟨m, hxm, hm⟩ := hasN_nat ht
    simp only [if_true]
    have c0 := hn.cell
    have hmi : (m : Int) < (s.ws.length : Int) := by omega
    have hn17 : s.ws.length ≤ 17 := ok.few
    have CL := hide (ncl_any b q vs s m w hn hm)
    have HST : Hid (∀ w3 vs', NtV w3 b q vs' ⟨s.ws.set m [], s.c⟩ → Kp (ntF b q vs) w w3 → (∀ k ∈ ntF b q vs', k ∈ ntF b q vs ∨ w.heap.size ≤ k) → Cg B w b s x m 0 ((s.ws[m]).length : Int) w3 ∧ w3.cell? ⟨b, 0, none⟩ = some (.slice (some ⟨q, 0, none⟩) s.ws.length s.ws.length)) := hide (fun w3 vs' a1 a2 a3 => by
      obtain ⟨k1, k2⟩ := ks_nt hn hB a1 a2 a3
      have hc := a1.cell
      rw [show (St.ws ⟨s.ws.set m [], s.c⟩).length = s.ws.length by simp] at hc
      refine ⟨⟨⟨q, vs', by rw [cw_zero]; exact a1, k1⟩, k2, ?_⟩, hc⟩
      rw [cw_zero]
      have := tot_set s.ws m s.ws[m] [] (List.getElem?_eq_getElem hm)
      simp only [List.length_nil] at this
      omega)
    have HNX : Hid (∀ j, j < s.ws.length → ∀ G wr, Cg B w b s x m j G wr → ∃ q', wr.cell? ⟨b, 0, none⟩ = some (.slice (some ⟨q', 0, none⟩) s.ws.length s.ws.length) ∧ ∃ d : Int, (0 ≤ G ∧ G ≤ 69632 ∧ 0 ≤ d ∧ d ≤ 69632) ∧ Calls Try.prog 33 #[.pointer (some ⟨q', j, none⟩), .int .i64 x] wr fun e w' => e = .returned (.int .i64 d) ∧ Cg B w b s x m (j + 1) (G + d) w') := hide (fun j hj G wr hc => by
      obtain ⟨⟨q', vs', h1, h2⟩, h3, h4⟩ := hc
      obtain ⟨hjl, hj2⟩ := cw_at x m s.ws j hj
      have hcell := h1.cell
      rw [show (St.ws ⟨cw x m s.ws j, s.c⟩).length = s.ws.length from cw_len x m s.ws j] at hcell
      have hts := tot_set (cw x m s.ws j) j (cw x m s.ws j)[j] (((cw x m s.ws j)[j]).filter (stays x)) (List.getElem?_eq_getElem hjl)
      have hfl : (((cw x m s.ws j)[j]).filter (stays x)).length ≤ ((cw x m s.ws j)[j]).length := List.length_filter_le _ _
      have hle : ((cw x m s.ws j)[j]).length ≤ 4096 := by
        rw [hj2]
        split
        · exact Nat.zero_le _
        · exact ok.lim _ (List.getElem_mem hj)
      have htl : tot s.ws ≤ 69632 := by have := tot_le s.ws ok.lim; omega
      have htw : tot (cw x m s.ws j) ≤ tot s.ws := by
        have e1 : ∀ k, k ≤ s.ws.length → tot (cw x m s.ws k) ≤ tot s.ws := fun k => by
          induction k with
          | zero =>
            intro _
            rw [cw_zero]
            have := tot_set s.ws m s.ws[m] [] (List.getElem?_eq_getElem hm)
            simp only [List.length_nil] at this
            omega
          | succ k ih =>
            intro hk
            obtain ⟨hkl, _⟩ := cw_at x m s.ws k (by omega)
            have h5 := tot_set (cw x m s.ws k) k (cw x m s.ws k)[k] (((cw x m s.ws k)[k]).filter (stays x)) (List.getElem?_eq_getElem hkl)
            have h6 : (((cw x m s.ws k)[k]).filter (stays x)).length ≤ ((cw x m s.ws k)[k]).length := List.length_filter_le _ _
            rw [cw_next x m hxm s.ws k (by omega) hkl]
            have := ih (by omega)
            omega
        exact e1 j (by omega)
      refine ⟨q', hcell, (((cw x m s.ws j)[j]).length : Int) - ((((cw x m s.ws j)[j]).filter (stays x)).length : Int), ⟨by omega, by omega, ?_, ?_⟩, (ncof_any b q' vs' _ j x wr h1 hjl).mono ?_⟩
      · omega
      · omega
      · rintro e w' ⟨he, vs2, a1, a2, a3⟩
        obtain ⟨k1, k2⟩ := ks_nt h1 h2 a1 a2 a3
        refine ⟨he, ⟨q', vs2, by rw [cw_next x m hxm s.ws j hj hjl]; exact a1, k1⟩, h3.trans k2, ?_⟩
        rw [cw_next x m hxm s.ws j hj hjl, h4]
        show _ + ((((cw x m s.ws j)[j]).length : Int) - ((((cw x m s.ws j)[j]).filter (stays x)).length : Int)) = _
        omega)
    have HFN : Hid (∀ G wr, Cg B w b s x m s.ws.length G wr → G = clN s x ∧ Calls Try.prog 30 #[.pointer (some ⟨b, 1, none⟩), .int .i64 1, .int .i64 G] wr fun e w' => (∃ v, e = .returned v) ∧ NtAt B w' b ⟨clr x 0 s.ws, up s.c 1 (s.c 1 + clN s x)⟩ ∧ Ks B ntT w w') := hide (fun G wr hc => by
      obtain ⟨⟨q', vs', h1, h2⟩, h3, h4⟩ := hc
      rw [cw_all] at h1 h4
      rw [← hcl] at h4
      refine ⟨h4, (nraise_any b q' vs' _ 1 G wr h1 (by decide) (ok.lo 1) (by omega) (by have := ok.hi 1; show s.c 1 + G ≤ _; omega)).mono ?_⟩
      rintro e w' ⟨he, a1, a2⟩
      rw [h4] at a1
      obtain ⟨k1, k2⟩ := nt_step h1 h2 a1 a2 (fun k hk => by rw [List.mem_singleton] at hk; subst hk; exact Or.inl (mem_ntF.2 (Or.inl rfl))) (fun _ hx => Or.inl hx)
      exact ⟨he, k1, h3.trans k2⟩)
    have hw0 : ((s.ws[m]).length : Int) ≤ 4096 := by have := ok.lim _ (List.getElem_mem hm); omega
    generalize (s.ws[m]).length = L0 at *
    clear hn hB hm ok ht hclb hcl
    subst hxm
    generalize hnn : s.ws.length = n at *
    have HNN := hide hnn
    clear hnn
    go_enter Try.func14, Try.ntmps14
    go_wp2_with fail
    refine (unhide HA _ (unhide HM)).mono ?_
    rintro r w1 ⟨rfl, rfl⟩
    go_wp2_with fail
    refine (unhide CL).mono ?_
    rintro r w3 ⟨rfl, vs3, a1, a2, a3⟩
    obtain ⟨g1, g2⟩ := unhide HST _ _ a1 a2 a3
    have G1 := hide g1
    clear g1 a1 a2 a3 HST HA HM CL c0
    go_wp2_with fail
    go_loopw [6, 24] (fun gv i wr => ∃ (j : Nat) (G : Int), j ≤ n ∧ gv = .int .i64 G ∧ i = .int .i64 (j : Int) ∧ Hid (Cg B w1 b s (m : Int) m j G wr)) (fun _ i _ => n - (intOf i).toNat)
    case atStart => exact ⟨0, _, Nat.zero_le _, rfl, rfl, G1⟩
    case round =>
      clear g2 G1
      obtain ⟨j, G, hj, rfl, rfl, HG⟩ := hrel
      by_cases hlt : j < n
      · have hji : (j : Int) < (n : Int) := by omega
        obtain ⟨q', hc', d, ⟨b1, b2, b3, b4⟩, hcalls⟩ := unhide HNX j hlt G wr (unhide HG)
        have HC := hide hcalls
        clear hcalls HNX HG HFN
        have hwr : wrap64 (G + d) = G + d := by unfold wrap64; omega
        go_wp2_with fail
        refine (unhide HC).mono ?_
        rintro r w5 ⟨rfl, hc5⟩
        have H5 := hide hc5
        clear hc5 HC
        go_wp2
        go_roundw
        case rel => exact ⟨j + 1, G + d, by omega, by go_num, by go_num, H5⟩
        case measure => simp [intOf]; omega
      · obtain rfl : j = n := by omega
        have hji : ¬ (j : Int) < (j : Int) := by omega
        obtain ⟨e1, hcalls⟩ := unhide HFN G wr (unhide HG)
        have E1 := hide e1
        have HC := hide hcalls
        clear hcalls HNX HG HFN e1
        go_wp2_with fail
        refine (unhide HC).mono ?_
        rintro r w5 ⟨⟨v5, rfl⟩, k1, k2⟩
        have K1 := hide k1
        have K2 := hide k2
        clear k1 k2 HC
        go_wp2
        go_ret2
        exact ⟨by rw [← unhide E1]; rfl, unhide K1, unhide K2⟩
end Go.Proofs.Ytledoopfffhigaa
