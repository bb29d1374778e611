/-
  CreditPlays: its walk.
-/
import Derived.Test.YtcogcfnbgicjcaaP06
import Derived.Deep.DeepCutAuto
namespace Go.Proofs.Ytcogcfnbgicjcaa
open Go.RowKit Cr Go.HeldUp

set_option maxHeartbeats 16000000 in
set_option maxRecDepth 100000 in
theorem cplays_walk (x0 : Int) (ad : Option Addr) (cap : Nat) (l : List A20) (w : World) (_hl : l.length ≤ 9223372036854775807) (hA : A20At w ad l) (_hok : ∀ y ∈ l, y.ok) (hz : ∀ y ∈ l, y.t.size ≤ 281474976710656) :
    Calls Try.prog 3 #[.int .i64 x0, .slice ad l.length cap] w fun e w' => e = .returned (.bool true) ∧ Below w.heap.size w w' := by
  have WK := hide cWorks_any
  have NP := hide newPurse_any
  have HL := hide hA
  have HZ := hide hz
  clear hA hz
  by_cases hc : 1 ≤ x0 ∧ x0 ≤ 256
  · obtain ⟨c, rfl⟩ : ∃ c : Nat, x0 = (c : Int) := ⟨x0.toNat, by omega⟩
    have NS := hide (newStore_ok c w (by omega) (by omega))
    have NR := hide (fun W => rcNew_ok c W (by omega) (by omega))
    clear hc
    go_enter Try.func3, Try.ntmps3
    go_wp2_with fail
    refine (unhide NS).mono ?_
    rintro _ w1 ⟨rfl, a1, k1⟩
    have A1 := hide a1
    have K1 := hide k1
    clear NS a1 k1
    go_wp2_with fail
    refine (unhide NR _).mono ?_
    rintro _ w2 ⟨rfl, a2, k2⟩
    have A2 := hide a2
    have K2 := hide k2
    clear NR a2 k2
    go_wp2_with fail
    refine (unhide NP _).mono ?_
    rintro _ w3 ⟨rfl, a3, k3⟩
    have HS : Hid (Cq w (w3.alloc (.cells #[.int .i64 0] 34)) w.heap.size w1.heap.size w2.heap.size w3.heap.size ⟨c, 0, []⟩ ⟨c, 0, []⟩ 0 0) := hide (by
      have k4 := Kp.alloc w3 (.cells #[.int .i64 0] 34)
      have k12 := (unhide K1).trans (unhide K2) (by simp)
      have k13 := k12.trans k3 (by simp)
      have s1 := (unhide K1).size
      have s2 := k12.size
      have s3 := k13.size
      have k34 := k3.trans k4 (by simp)
      exact ⟨((unhide A1).kp (unhide K2) (by simp)).kp k34 (by simp), (unhide A2).kp k34 (by simp) (by simp), CBox.kp a3 k4 (by simp), CBox.new w3 _ _, k13.trans k4 (by simp), Nat.le_refl _, s1, s2, s3, by decide, by decide, fun x hx => by cases hx⟩)
    clear NP a3 k3 A1 A2 K1 K2
    generalize w1.heap.size = r at *
    generalize w2.heap.size = p at *
    go_wp2_with fail
    generalize w3.heap.size = q at *
    generalize hb : w.heap.size = b at HS ⊢
    generalize w3.alloc (.cells #[.int .i64 0] 34) = w4 at *
    go_loopw [11] (fun iv wr => ∃ (k : Nat) (s : Sto) (n : Nat), k ≤ l.length ∧ k ≤ 300 ∧ iv = .int .i64 (k : Int) ∧ Hid (Cq w wr b r p q s s n n)) (fun iv _ => l.length - (intOf iv).toNat)
    case atStart => exact ⟨0, _, _, Nat.zero_le _, by decide, rfl, HS⟩
    case round =>
      clear HS
      obtain ⟨k, s, n, hkl, hk, rfl, HR⟩ := hrel
      by_cases h1 : k < l.length ∧ k < 300
      · obtain ⟨h1, h2⟩ := h1
        have h1i : (k : Int) < (l.length : Int) := by omega
        have h2i : (k : Int) < 300 := by omega
        obtain ⟨lb, lo, rfl, hbl, x0, x1, x2⟩ := ((unhide HL).kp (unhide HR).kp).at k h1
        have ST := hide (fun W (hk : Kp [] wr W) => cstep_any b r p q s n l[k] w W (unhide HZ _ (List.getElem_mem h1)) ((unhide HR).quiet hk))
        have ACT : Hid (∀ W, Kp [] w W → W.cell? ⟨lb, lo + k * 3, none⟩ = some (.int .i64 l[k].k) ∧ W.cell? ⟨lb, lo + k * 3 + 1, none⟩ = some (.int .i64 l[k].n) ∧ W.cell? ⟨lb, lo + k * 3 + 2, none⟩ = some (.string l[k].t)) := hide (fun W hk => by
          obtain ⟨lb', lo', e, _, y0, y1, y2⟩ := ((unhide HL).kp hk).at k h1
          injection e with e
          injection e with e1 e2
          subst e1 e2
          exact ⟨y0, y1, y2⟩)
        have HKW := hide (unhide HR).kp
        clear HL HZ WK hbl HR
        generalize l[k] = y at *
        go_upto_region 9 with fail
        clear x0 x1 x2
        obtain ⟨act, hact⟩ : ∃ act : Value, act = .agg #[.int .i64 y.k, .int .i64 y.n, .string y.t] := ⟨_, rfl⟩
        refine wp_region_held_drew (S := fun W => W.cell? ⟨lb, lo + k * 3, none⟩ = some (.int .i64 y.k) ∧ W.cell? ⟨lb, lo + k * 3 + 1, none⟩ = some (.int .i64 y.n) ∧ W.cell? ⟨lb, lo + k * 3 + 2, none⟩ = some (.string y.t)) (by kernel_rfl) (unhide ACT _ ((unhide HKW).trans (Kp.drew _) (by simp))) (fun hHeld => ?_)
        show wpAnyH _ _ _ _ _ 38 (Array.replicate 38 false) _ _
        refine wpAnyH_take (i := 0) (oi := { dst := some 55, op := Op.move (Operand.tmp 5), type := 23, pos := "law.go:51", after := #[], guard := none }) (v := ?_) rfl (by kernel_rfl) (by kernel_rfl) (by kernel_rfl) (fun _ _ _ h => h) (Or.inl ⟨by rfl, ?_⟩) (by assumption) ?_
        rotate_left 1
        · intro w0 hSw
          (try dsimp only at hSw)
          go_simp
          (try with_reducible rfl)
        try simp only [Act.put, List.setIfInBounds_toArray, List.set_cons_zero, List.set_cons_succ]
        refine wpAnyH_take (i := 1) (oi := { dst := some 56, op := Op.move (Operand.tmp 7), type := 27, pos := "law.go:51", after := #[], guard := none }) (v := ?_) rfl (by kernel_rfl) (by kernel_rfl) (by kernel_rfl) (fun _ _ _ h => h) (Or.inl ⟨by rfl, ?_⟩) (by assumption) ?_
        rotate_left 1
        · intro w0 hSw
          (try dsimp only at hSw)
          go_simp
          (try with_reducible rfl)
        try simp only [Act.put, List.setIfInBounds_toArray, List.set_cons_zero, List.set_cons_succ]
        refine wpAnyH_take (i := 2) (oi := { dst := some 57, op := Op.move (Operand.tmp 9), type := 30, pos := "law.go:51", after := #[], guard := none }) (v := ?_) rfl (by kernel_rfl) (by kernel_rfl) (by kernel_rfl) (fun _ _ _ h => h) (Or.inl ⟨by rfl, ?_⟩) (by assumption) ?_
        rotate_left 1
        · intro w0 hSw
          (try dsimp only at hSw)
          go_simp
          (try with_reducible rfl)
        try simp only [Act.put, List.setIfInBounds_toArray, List.set_cons_zero, List.set_cons_succ]
        refine wpAnyH_take (i := 3) (oi := { dst := some 58, op := Op.move (Operand.tmp 10), type := 32, pos := "law.go:51", after := #[], guard := none }) (v := ?_) rfl (by kernel_rfl) (by kernel_rfl) (by kernel_rfl) (fun _ _ _ h => h) (Or.inl ⟨by rfl, ?_⟩) (by assumption) ?_
        rotate_left 1
        · intro w0 hSw
          (try dsimp only at hSw)
          go_simp
          (try with_reducible rfl)
        try simp only [Act.put, List.setIfInBounds_toArray, List.set_cons_zero, List.set_cons_succ]
        refine wpAnyH_take (i := 4) (oi := { dst := some 59, op := Op.move (Operand.tmp 1), type := 22, pos := "law.go:51", after := #[], guard := none }) (v := ?_) rfl (by kernel_rfl) (by kernel_rfl) (by kernel_rfl) (fun _ _ _ h => h) (Or.inl ⟨by rfl, ?_⟩) (by assumption) ?_
        rotate_left 1
        · intro w0 hSw
          (try dsimp only at hSw)
          go_simp
          (try with_reducible rfl)
        try simp only [Act.put, List.setIfInBounds_toArray, List.set_cons_zero, List.set_cons_succ]
        refine wpAnyH_take (i := 5) (oi := { dst := some 60, op := Op.move (Operand.tmp 11), type := 3, pos := "law.go:51", after := #[], guard := none }) (v := ?_) rfl (by kernel_rfl) (by kernel_rfl) (by kernel_rfl) (fun _ _ _ h => h) (Or.inl ⟨by rfl, ?_⟩) (by assumption) ?_
        rotate_left 1
        · intro w0 hSw
          (try dsimp only at hSw)
          go_simp
          (try with_reducible rfl)
        try simp only [Act.put, List.setIfInBounds_toArray, List.set_cons_zero, List.set_cons_succ]
        refine wpAnyH_take (i := 6) (oi := { dst := some 61, op := Op.indexAddr 22 (Operand.tmp 59) (Operand.tmp 60), type := 0, pos := "law.go:51", after := #[{ on := 4, ground := Ground.data }, { on := 5, ground := Ground.data }], guard := none }) (v := ?_) rfl (by kernel_rfl) (by kernel_rfl) (by kernel_rfl) (fun _ _ _ h => h) (Or.inl ⟨by rfl, ?_⟩) (by assumption) ?_
        rotate_left 1
        · intro w0 hSw
          (try dsimp only at hSw)
          go_simp
          (try with_reducible rfl)
        try simp only [Act.put, List.setIfInBounds_toArray, List.set_cons_zero, List.set_cons_succ]
        refine wpAnyH_take (i := 7) (oi := { dst := some 62, op := Op.load 37 (Operand.tmp 61), type := 37, pos := "law.go:51", after := #[{ on := 6, ground := Ground.data }], guard := none }) (v := ?_) rfl (by kernel_rfl) (by kernel_rfl) (by kernel_rfl) (fun _ _ _ h => h) (Or.inl ⟨by rfl, ?_⟩) (by assumption) ?_
        rotate_left 1
        · intro w0 hSw
          (try dsimp only at hSw)
          go_simp
          (try with_reducible rfl)
        try simp only [Act.put, List.setIfInBounds_toArray, List.set_cons_zero, List.set_cons_succ]
        refine wpAnyH_ready (rs := [8]) (by kernel_rfl) (by simp) ?_
        refine AllReadyH.cons (o := { dst := some 63, op := Op.call { callee := Callee.value (Operand.func 9), args := #[Operand.tmp 55, Operand.tmp 56, Operand.tmp 57, Operand.tmp 58, Operand.tmp 62], argTypes := #[23, 27, 30, 32, 37] }, type := 4, pos := "law.go:51", after := #[{ on := 0, ground := Ground.data }, { on := 1, ground := Ground.data }, { on := 2, ground := Ground.data }, { on := 3, ground := Ground.data }, { on := 7, ground := Ground.data }], guard := none }) rfl (fun K hK => ?_) (AllReadyH.nil)
        go_simp
        go_at_call 9
        refine (unhide ST _ (Kp.drew _)).mono ?_
        rintro _ w5 ⟨rfl, s', n', hq⟩
        have HQ := hide hq
        clear hq ST hHeld
        have c5 := unhide ACT w5 (unhide HQ).kp
        refine hK.out _ _ c5 (fun _ => ?_)
        clear hK K
        try simp only [Act.put, List.setIfInBounds_toArray, List.set_cons_zero, List.set_cons_succ]
        obtain ⟨ad5, cp5, hr2, hr1, hm5, hm6⟩ : ∃ ad5 cp5, w5.cell? ⟨r, 2, none⟩ = some (.slice ad5 s'.q.length cp5) ∧ w5.cell? ⟨r, 1, none⟩ = some (.int .i64 (s'.owed : Int)) ∧ s'.q.length ≤ 256 ∧ s'.owed ≤ 256 := by
          obtain ⟨ok, v, h1, h2⟩ := (unhide HQ).rf
          obtain ⟨ad5, cp5, rfl, _⟩ := h2.form
          have := ok.room
          have := ok.hi
          exact ⟨ad5, cp5, h1.cell (i := 2) rfl, h1.cell (i := 1) rfl, by omega, by omega⟩
        have hp0 : w5.cell? ⟨q, 0, none⟩ = some (.int .i64 (n' : Int)) := CBox.cell (unhide HQ).rp (i := 0) rfl
        have LN := hide (cLen_any b s' w5 (unhide HQ).st)
        have OW := hide (cOwed_any b s' w5 (unhide HQ).st)
        have HP := hide (pHas_any p n' w5 (unhide HQ).ps)
        have hn' := (unhide HQ).hn
        generalize s'.q.length = ql at *
        generalize s'.owed = so at *
        have hHeld2 : (fun W : World => (W.cell? ⟨lb, lo + k * 3, none⟩ = some (.int .i64 y.k) ∧ W.cell? ⟨lb, lo + k * 3 + 1, none⟩ = some (.int .i64 y.n) ∧ W.cell? ⟨lb, lo + k * 3 + 2, none⟩ = some (.string y.t)) ∧ W.cell? ⟨r, 2, none⟩ = some (.slice ad5 ql cp5) ∧ W.cell? ⟨r, 1, none⟩ = some (.int .i64 (so : Int)) ∧ W.cell? ⟨q, 0, none⟩ = some (.int .i64 (n' : Int))) w5 := ⟨c5, hr2, hr1, hp0⟩
        refine wpAnyH_up (S' := fun W => (W.cell? ⟨lb, lo + k * 3, none⟩ = some (.int .i64 y.k) ∧ W.cell? ⟨lb, lo + k * 3 + 1, none⟩ = some (.int .i64 y.n) ∧ W.cell? ⟨lb, lo + k * 3 + 2, none⟩ = some (.string y.t)) ∧ W.cell? ⟨r, 2, none⟩ = some (.slice ad5 ql cp5) ∧ W.cell? ⟨r, 1, none⟩ = some (.int .i64 (so : Int)) ∧ W.cell? ⟨q, 0, none⟩ = some (.int .i64 (n' : Int))) (fun _ h => h.1) _ _ _ _ ?_
        refine wpAnyH_take (i := 9) (oi := { dst := some 64, op := Op.unOp UnOp.not 4 (Operand.tmp 63), type := 4, pos := "law.go:51", after := #[{ on := 8, ground := Ground.data }], guard := none }) (v := ?_) rfl (by kernel_rfl) (by kernel_rfl) (by kernel_rfl) (fun _ _ _ h => h) (Or.inl ⟨by rfl, ?_⟩) (by assumption) ?_
        rotate_left 1
        · intro w0 hSw
          (try dsimp only at hSw)
          go_simp
          (try with_reducible rfl)
        try simp only [Act.put, List.setIfInBounds_toArray, List.set_cons_zero, List.set_cons_succ]
        refine wpAnyH_take (i := 10) (oi := { dst := some 65, op := Op.move (Operand.tmp 64), type := 4, pos := "law.go:51", after := #[{ on := 9, ground := Ground.data }, { on := 8, ground := Ground.chain }], guard := none }) (v := ?_) rfl (by kernel_rfl) (by kernel_rfl) (by kernel_rfl) (fun _ _ _ h => h) (Or.inl ⟨by rfl, ?_⟩) (by assumption) ?_
        rotate_left 1
        · intro w0 hSw
          (try dsimp only at hSw)
          go_simp
          (try with_reducible rfl)
        try simp only [Act.put, List.setIfInBounds_toArray, List.set_cons_zero, List.set_cons_succ]
        refine wpAnyH_take (i := 11) (oi := { dst := some 66, op := Op.move (Operand.tmp 5), type := 23, pos := "law.go:51", after := #[{ on := 10, ground := Ground.guard }], guard := some (10, false) }) (v := ?_) rfl (by kernel_rfl) (by kernel_rfl) (by kernel_rfl) (fun _ _ _ h => h) (Or.inl ⟨by rfl, ?_⟩) (by assumption) ?_
        rotate_left 1
        · intro w0 hSw
          (try dsimp only at hSw)
          go_simp
          (try with_reducible rfl)
        try simp only [Act.put, List.setIfInBounds_toArray, List.set_cons_zero, List.set_cons_succ]
        refine wpAnyH_take (i := 13) (oi := { dst := some 68, op := Op.move (Operand.tmp 7), type := 27, pos := "law.go:51", after := #[{ on := 10, ground := Ground.guard }], guard := some (10, false) }) (v := ?_) rfl (by kernel_rfl) (by kernel_rfl) (by kernel_rfl) (fun _ _ _ h => h) (Or.inl ⟨by rfl, ?_⟩) (by assumption) ?_
        rotate_left 1
        · intro w0 hSw
          (try dsimp only at hSw)
          go_simp
          (try with_reducible rfl)
        try simp only [Act.put, List.setIfInBounds_toArray, List.set_cons_zero, List.set_cons_succ]
        refine wpAnyH_take (i := 14) (oi := { dst := some 69, op := Op.nilCheck (Operand.tmp 68), type := 0, pos := "law.go:51", after := #[{ on := 13, ground := Ground.data }, { on := 10, ground := Ground.guard }], guard := some (10, false) }) (v := ?_) rfl (by kernel_rfl) (by kernel_rfl) (by kernel_rfl) (fun _ _ _ h => h) (Or.inl ⟨by rfl, ?_⟩) (by assumption) ?_
        rotate_left 1
        · intro w0 hSw
          (try dsimp only at hSw)
          go_simp
          (try with_reducible rfl)
        try simp only [Act.put, List.setIfInBounds_toArray, List.set_cons_zero, List.set_cons_succ]
        refine wpAnyH_take (i := 15) (oi := { dst := some 70, op := Op.fieldAddr 41 (Operand.tmp 69) 2, type := 0, pos := "law.go:51", after := #[{ on := 14, ground := Ground.data }, { on := 10, ground := Ground.guard }], guard := some (10, false) }) (v := ?_) rfl (by kernel_rfl) (by kernel_rfl) (by kernel_rfl) (fun _ _ _ h => h) (Or.inl ⟨by rfl, ?_⟩) (by assumption) ?_
        rotate_left 1
        · intro w0 hSw
          (try dsimp only at hSw)
          go_simp
          (try with_reducible rfl)
        try simp only [Act.put, List.setIfInBounds_toArray, List.set_cons_zero, List.set_cons_succ]
        refine wpAnyH_take (i := 16) (oi := { dst := some 71, op := Op.load 39 (Operand.tmp 70), type := 39, pos := "law.go:51", after := #[{ on := 15, ground := Ground.data }, { on := 10, ground := Ground.guard }], guard := some (10, false) }) (v := ?_) rfl (by kernel_rfl) (by kernel_rfl) (by kernel_rfl) (fun _ _ _ h => h) (Or.inl ⟨by rfl, ?_⟩) (by assumption) ?_
        rotate_left 1
        · intro w0 hSw
          (try dsimp only at hSw)
          go_simp
          (try with_reducible rfl)
        try simp only [Act.put, List.setIfInBounds_toArray, List.set_cons_zero, List.set_cons_succ]
        refine wpAnyH_take (i := 17) (oi := { dst := some 72, op := Op.call { callee := Callee.builtin Builtin.len, args := #[Operand.tmp 71], argTypes := #[39] }, type := 3, pos := "law.go:51", after := #[{ on := 16, ground := Ground.data }, { on := 10, ground := Ground.guard }], guard := some (10, false) }) (v := ?_) rfl (by kernel_rfl) (by kernel_rfl) (by kernel_rfl) (fun _ _ _ h => h) (Or.inl ⟨by rfl, ?_⟩) (by assumption) ?_
        rotate_left 1
        · intro w0 hSw
          (try dsimp only at hSw)
          go_simp
          (try with_reducible rfl)
        try simp only [Act.put, List.setIfInBounds_toArray, List.set_cons_zero, List.set_cons_succ]
        refine wpAnyH_ready (rs := [12]) (by kernel_rfl) (by simp) ?_
        refine AllReadyH.cons (o := { dst := some 67, op := Op.call { callee := Callee.value (Operand.func 10), args := #[Operand.tmp 66], argTypes := #[23] }, type := 3, pos := "law.go:51", after := #[{ on := 11, ground := Ground.data }, { on := 10, ground := Ground.chain }, { on := 10, ground := Ground.guard }], guard := some (10, false) }) rfl (fun K hK => ?_) (AllReadyH.nil)
        go_simp
        go_at_call 10
        refine (unhide LN).mono ?_
        rintro _ w6 ⟨rfl, hw6⟩
        obtain rfl := hw6.symm
        refine hK.out _ _ hHeld2 (fun _ => ?_)
        clear hK K
        try simp only [Act.put, List.setIfInBounds_toArray, List.set_cons_zero, List.set_cons_succ]
        refine wpAnyH_take (i := 18) (oi := { dst := some 73, op := Op.binOp BinOp.neq 3 (Operand.tmp 67) (Operand.tmp 72) 3, type := 4, pos := "law.go:51", after := #[{ on := 12, ground := Ground.data }, { on := 17, ground := Ground.data }, { on := 10, ground := Ground.guard }], guard := some (10, false) }) (v := ?_) rfl (by kernel_rfl) (by kernel_rfl) (by kernel_rfl) (fun _ _ _ h => h) (Or.inl ⟨by rfl, ?_⟩) (by assumption) ?_
        rotate_left 1
        · intro w0 hSw
          (try dsimp only at hSw)
          go_simp
          (try with_reducible rfl)
        try simp only [Act.put, List.setIfInBounds_toArray, List.set_cons_zero, List.set_cons_succ]
        refine wpAnyH_take (i := 19) (oi := { dst := some 74, op := Op.pick (Operand.tmp 65) (Operand.const (Value.bool true)) (Operand.tmp 73), type := 4, pos := "law.go:51", after := #[{ on := 10, ground := Ground.data }, { on := 18, ground := Ground.data }], guard := none }) (v := ?_) rfl (by kernel_rfl) (by kernel_rfl) (by kernel_rfl) (fun _ _ _ h => h) (Or.inl ⟨by rfl, ?_⟩) (by assumption) ?_
        rotate_left 1
        · intro w0 hSw
          (try dsimp only at hSw)
          go_simp
          (try with_reducible rfl)
        try simp only [Act.put, List.setIfInBounds_toArray, List.set_cons_zero, List.set_cons_succ]
        refine wpAnyH_take (i := 20) (oi := { dst := some 75, op := Op.move (Operand.tmp 74), type := 4, pos := "law.go:51", after := #[{ on := 19, ground := Ground.data }, { on := 12, ground := Ground.chain }], guard := none }) (v := ?_) rfl (by kernel_rfl) (by kernel_rfl) (by kernel_rfl) (fun _ _ _ h => h) (Or.inl ⟨by rfl, ?_⟩) (by assumption) ?_
        rotate_left 1
        · intro w0 hSw
          (try dsimp only at hSw)
          go_simp
          (try with_reducible rfl)
        try simp only [Act.put, List.setIfInBounds_toArray, List.set_cons_zero, List.set_cons_succ]
        refine wpAnyH_take (i := 21) (oi := { dst := some 76, op := Op.move (Operand.tmp 5), type := 23, pos := "law.go:51", after := #[{ on := 20, ground := Ground.guard }], guard := some (20, false) }) (v := ?_) rfl (by kernel_rfl) (by kernel_rfl) (by kernel_rfl) (fun _ _ _ h => h) (Or.inl ⟨by rfl, ?_⟩) (by assumption) ?_
        rotate_left 1
        · intro w0 hSw
          (try dsimp only at hSw)
          go_simp
          (try with_reducible rfl)
        try simp only [Act.put, List.setIfInBounds_toArray, List.set_cons_zero, List.set_cons_succ]
        refine wpAnyH_take (i := 23) (oi := { dst := some 78, op := Op.move (Operand.tmp 7), type := 27, pos := "law.go:51", after := #[{ on := 20, ground := Ground.guard }], guard := some (20, false) }) (v := ?_) rfl (by kernel_rfl) (by kernel_rfl) (by kernel_rfl) (fun _ _ _ h => h) (Or.inl ⟨by rfl, ?_⟩) (by assumption) ?_
        rotate_left 1
        · intro w0 hSw
          (try dsimp only at hSw)
          go_simp
          (try with_reducible rfl)
        try simp only [Act.put, List.setIfInBounds_toArray, List.set_cons_zero, List.set_cons_succ]
        refine wpAnyH_take (i := 24) (oi := { dst := some 79, op := Op.nilCheck (Operand.tmp 78), type := 0, pos := "law.go:51", after := #[{ on := 23, ground := Ground.data }, { on := 20, ground := Ground.guard }], guard := some (20, false) }) (v := ?_) rfl (by kernel_rfl) (by kernel_rfl) (by kernel_rfl) (fun _ _ _ h => h) (Or.inl ⟨by rfl, ?_⟩) (by assumption) ?_
        rotate_left 1
        · intro w0 hSw
          (try dsimp only at hSw)
          go_simp
          (try with_reducible rfl)
        try simp only [Act.put, List.setIfInBounds_toArray, List.set_cons_zero, List.set_cons_succ]
        refine wpAnyH_take (i := 25) (oi := { dst := some 80, op := Op.fieldAddr 41 (Operand.tmp 79) 1, type := 0, pos := "law.go:51", after := #[{ on := 24, ground := Ground.data }, { on := 20, ground := Ground.guard }], guard := some (20, false) }) (v := ?_) rfl (by kernel_rfl) (by kernel_rfl) (by kernel_rfl) (fun _ _ _ h => h) (Or.inl ⟨by rfl, ?_⟩) (by assumption) ?_
        rotate_left 1
        · intro w0 hSw
          (try dsimp only at hSw)
          go_simp
          (try with_reducible rfl)
        try simp only [Act.put, List.setIfInBounds_toArray, List.set_cons_zero, List.set_cons_succ]
        refine wpAnyH_take (i := 26) (oi := { dst := some 81, op := Op.load 3 (Operand.tmp 80), type := 3, pos := "law.go:51", after := #[{ on := 25, ground := Ground.data }, { on := 20, ground := Ground.guard }], guard := some (20, false) }) (v := ?_) rfl (by kernel_rfl) (by kernel_rfl) (by kernel_rfl) (fun _ _ _ h => h) (Or.inl ⟨by rfl, ?_⟩) (by assumption) ?_
        rotate_left 1
        · intro w0 hSw
          (try dsimp only at hSw)
          go_simp
          (try with_reducible rfl)
        try simp only [Act.put, List.setIfInBounds_toArray, List.set_cons_zero, List.set_cons_succ]
        refine wpAnyH_ready (rs := [22]) (by kernel_rfl) (by simp) ?_
        refine AllReadyH.cons (o := { dst := some 77, op := Op.call { callee := Callee.value (Operand.func 11), args := #[Operand.tmp 76], argTypes := #[23] }, type := 3, pos := "law.go:51", after := #[{ on := 21, ground := Ground.data }, { on := 20, ground := Ground.chain }, { on := 20, ground := Ground.guard }], guard := some (20, false) }) rfl (fun K hK => ?_) (AllReadyH.nil)
        go_simp
        go_at_call 11
        refine (unhide OW).mono ?_
        rintro _ w6 ⟨rfl, hw6⟩
        obtain rfl := hw6.symm
        refine hK.out _ _ hHeld2 (fun _ => ?_)
        clear hK K
        try simp only [Act.put, List.setIfInBounds_toArray, List.set_cons_zero, List.set_cons_succ]
        refine wpAnyH_take (i := 27) (oi := { dst := some 82, op := Op.binOp BinOp.neq 3 (Operand.tmp 77) (Operand.tmp 81) 3, type := 4, pos := "law.go:51", after := #[{ on := 22, ground := Ground.data }, { on := 26, ground := Ground.data }, { on := 20, ground := Ground.guard }], guard := some (20, false) }) (v := ?_) rfl (by kernel_rfl) (by kernel_rfl) (by kernel_rfl) (fun _ _ _ h => h) (Or.inl ⟨by rfl, ?_⟩) (by assumption) ?_
        rotate_left 1
        · intro w0 hSw
          (try dsimp only at hSw)
          go_simp
          (try with_reducible rfl)
        try simp only [Act.put, List.setIfInBounds_toArray, List.set_cons_zero, List.set_cons_succ]
        refine wpAnyH_take (i := 28) (oi := { dst := some 83, op := Op.pick (Operand.tmp 75) (Operand.const (Value.bool true)) (Operand.tmp 82), type := 4, pos := "law.go:51", after := #[{ on := 20, ground := Ground.data }, { on := 27, ground := Ground.data }], guard := none }) (v := ?_) rfl (by kernel_rfl) (by kernel_rfl) (by kernel_rfl) (fun _ _ _ h => h) (Or.inl ⟨by rfl, ?_⟩) (by assumption) ?_
        rotate_left 1
        · intro w0 hSw
          (try dsimp only at hSw)
          go_simp
          (try with_reducible rfl)
        try simp only [Act.put, List.setIfInBounds_toArray, List.set_cons_zero, List.set_cons_succ]
        refine wpAnyH_take (i := 29) (oi := { dst := some 84, op := Op.move (Operand.tmp 83), type := 4, pos := "law.go:51", after := #[{ on := 28, ground := Ground.data }, { on := 22, ground := Ground.chain }], guard := none }) (v := ?_) rfl (by kernel_rfl) (by kernel_rfl) (by kernel_rfl) (fun _ _ _ h => h) (Or.inl ⟨by rfl, ?_⟩) (by assumption) ?_
        rotate_left 1
        · intro w0 hSw
          (try dsimp only at hSw)
          go_simp
          (try with_reducible rfl)
        try simp only [Act.put, List.setIfInBounds_toArray, List.set_cons_zero, List.set_cons_succ]
        refine wpAnyH_take (i := 30) (oi := { dst := some 85, op := Op.move (Operand.tmp 9), type := 30, pos := "law.go:51", after := #[{ on := 29, ground := Ground.guard }], guard := some (29, false) }) (v := ?_) rfl (by kernel_rfl) (by kernel_rfl) (by kernel_rfl) (fun _ _ _ h => h) (Or.inl ⟨by rfl, ?_⟩) (by assumption) ?_
        rotate_left 1
        · intro w0 hSw
          (try dsimp only at hSw)
          go_simp
          (try with_reducible rfl)
        try simp only [Act.put, List.setIfInBounds_toArray, List.set_cons_zero, List.set_cons_succ]
        refine wpAnyH_take (i := 32) (oi := { dst := some 87, op := Op.move (Operand.tmp 10), type := 32, pos := "law.go:51", after := #[{ on := 29, ground := Ground.guard }], guard := some (29, false) }) (v := ?_) rfl (by kernel_rfl) (by kernel_rfl) (by kernel_rfl) (fun _ _ _ h => h) (Or.inl ⟨by rfl, ?_⟩) (by assumption) ?_
        rotate_left 1
        · intro w0 hSw
          (try dsimp only at hSw)
          go_simp
          (try with_reducible rfl)
        try simp only [Act.put, List.setIfInBounds_toArray, List.set_cons_zero, List.set_cons_succ]
        refine wpAnyH_take (i := 33) (oi := { dst := some 88, op := Op.nilCheck (Operand.tmp 87), type := 0, pos := "law.go:51", after := #[{ on := 32, ground := Ground.data }, { on := 29, ground := Ground.guard }], guard := some (29, false) }) (v := ?_) rfl (by kernel_rfl) (by kernel_rfl) (by kernel_rfl) (fun _ _ _ h => h) (Or.inl ⟨by rfl, ?_⟩) (by assumption) ?_
        rotate_left 1
        · intro w0 hSw
          (try dsimp only at hSw)
          go_simp
          (try with_reducible rfl)
        try simp only [Act.put, List.setIfInBounds_toArray, List.set_cons_zero, List.set_cons_succ]
        refine wpAnyH_take (i := 34) (oi := { dst := some 89, op := Op.fieldAddr 34 (Operand.tmp 88) 0, type := 0, pos := "law.go:51", after := #[{ on := 33, ground := Ground.data }, { on := 29, ground := Ground.guard }], guard := some (29, false) }) (v := ?_) rfl (by kernel_rfl) (by kernel_rfl) (by kernel_rfl) (fun _ _ _ h => h) (Or.inl ⟨by rfl, ?_⟩) (by assumption) ?_
        rotate_left 1
        · intro w0 hSw
          (try dsimp only at hSw)
          go_simp
          (try with_reducible rfl)
        try simp only [Act.put, List.setIfInBounds_toArray, List.set_cons_zero, List.set_cons_succ]
        refine wpAnyH_take (i := 35) (oi := { dst := some 90, op := Op.load 3 (Operand.tmp 89), type := 3, pos := "law.go:51", after := #[{ on := 34, ground := Ground.data }, { on := 29, ground := Ground.guard }], guard := some (29, false) }) (v := ?_) rfl (by kernel_rfl) (by kernel_rfl) (by kernel_rfl) (fun _ _ _ h => h) (Or.inl ⟨by rfl, ?_⟩) (by assumption) ?_
        rotate_left 1
        · intro w0 hSw
          (try dsimp only at hSw)
          go_simp
          (try with_reducible rfl)
        try simp only [Act.put, List.setIfInBounds_toArray, List.set_cons_zero, List.set_cons_succ]
        refine wpAnyH_ready (rs := [31]) (by kernel_rfl) (by simp) ?_
        refine AllReadyH.cons (o := { dst := some 86, op := Op.call { callee := Callee.value (Operand.func 12), args := #[Operand.tmp 85], argTypes := #[30] }, type := 3, pos := "law.go:51", after := #[{ on := 30, ground := Ground.data }, { on := 29, ground := Ground.chain }, { on := 29, ground := Ground.guard }], guard := some (29, false) }) rfl (fun K hK => ?_) (AllReadyH.nil)
        go_simp
        go_at_call 12
        refine (unhide HP).mono ?_
        rintro _ w6 ⟨rfl, hw6⟩
        obtain rfl := hw6.symm
        refine hK.out _ _ hHeld2 (fun _ => ?_)
        clear hK K
        try simp only [Act.put, List.setIfInBounds_toArray, List.set_cons_zero, List.set_cons_succ]
        refine wpAnyH_take (i := 36) (oi := { dst := some 91, op := Op.binOp BinOp.neq 3 (Operand.tmp 86) (Operand.tmp 90) 3, type := 4, pos := "law.go:51", after := #[{ on := 31, ground := Ground.data }, { on := 35, ground := Ground.data }, { on := 29, ground := Ground.guard }], guard := some (29, false) }) (v := ?_) rfl (by kernel_rfl) (by kernel_rfl) (by kernel_rfl) (fun _ _ _ h => h) (Or.inl ⟨by rfl, ?_⟩) (by assumption) ?_
        rotate_left 1
        · intro w0 hSw
          (try dsimp only at hSw)
          go_simp
          (try with_reducible rfl)
        try simp only [Act.put, List.setIfInBounds_toArray, List.set_cons_zero, List.set_cons_succ]
        refine wpAnyH_take (i := 37) (oi := { dst := some 92, op := Op.pick (Operand.tmp 84) (Operand.const (Value.bool true)) (Operand.tmp 91), type := 4, pos := "law.go:51", after := #[{ on := 29, ground := Ground.data }, { on := 36, ground := Ground.data }], guard := none }) (v := ?_) rfl (by kernel_rfl) (by kernel_rfl) (by kernel_rfl) (fun _ _ _ h => h) (Or.inl ⟨by rfl, ?_⟩) (by assumption) ?_
        rotate_left 1
        · intro w0 hSw
          (try dsimp only at hSw)
          go_simp
          (try with_reducible rfl)
        try simp only [Act.put, List.setIfInBounds_toArray, List.set_cons_zero, List.set_cons_succ]
        refine wpAnyH_done (by kernel_rfl) ?_ _
        go_wp2
        go_roundw
        case rel => exact ⟨k + 1, _, _, by omega, by omega, by go_num, HQ⟩
        case measure => simp [intOf]; omega
      · have hout : ¬ (k : Int) < (l.length : Int) ∨ ¬ (k : Int) < 300 := by omega
        have WKr := hide (unhide WK wr)
        have HK := hide (unhide HR).kp
        clear HL HZ HR WK
        by_cases h5 : (k : Int) < (l.length : Int)
        · have h6 : ¬ (k : Int) < 300 := hout.resolve_left (fun h => h h5)
          clear hout
          go_wp2_with fail
          refine (unhide WKr).mono ?_
          rintro _ w9 ⟨rfl, k9⟩
          have HF := hide (((unhide HK).trans k9 (by simp)).below (Nat.le_refl _) (by simp))
          clear WKr HK k9
          go_wp2
          go_ret
          exact ⟨rfl, unhide HF⟩
        · clear hout
          go_wp2_with fail
          refine (unhide WKr).mono ?_
          rintro _ w9 ⟨rfl, k9⟩
          have HF := hide (((unhide HK).trans k9 (by simp)).below (Nat.le_refl _) (by simp))
          clear WKr HK k9
          go_wp2
          go_ret
          exact ⟨rfl, unhide HF⟩
  · have NS := hide (newStore_not x0 w hc)
    have NR := hide (rcNew_not x0 w hc)
    clear hc HL HZ
    go_enter Try.func3, Try.ntmps3
    go_wp2_with fail
    refine (unhide NS).mono ?_
    rintro _ w1 ⟨rfl, hw1⟩
    obtain rfl := hw1.symm
    go_wp2_with fail
    refine (unhide NR).mono ?_
    rintro _ w1 ⟨rfl, hw1⟩
    obtain rfl := hw1.symm
    clear NS NR
    go_wp2_with fail
    refine (unhide NP _).mono ?_
    rintro _ w3 ⟨rfl, a3, k3⟩
    have K4 := hide (k3.trans (Kp.alloc w3 (.cells #[.int .i64 0] 34)) (by simp))
    clear NP a3 k3
    go_wp2_with fail
    generalize w3.heap.size = q at *
    generalize w3.alloc (.cells #[.int .i64 0] 34) = w4 at *
    go_loopw [11] (fun iv wr => wr = w4 ∧ iv = .int .i64 0) (fun _ _ => 0)
    case atStart => exact ⟨rfl, rfl⟩
    case round =>
      obtain ⟨hwr, rfl⟩ := hrel
      obtain rfl := hwr.symm
      go_wp2_with fail
      refine (unhide WK _).mono ?_
      rintro _ w9 ⟨rfl, k9⟩
      have HF := hide (((unhide K4).trans k9 (by simp)).below (Nat.le_refl _) (by simp))
      clear WK K4 k9
      go_wp2
      go_ret
      exact ⟨rfl, unhide HF⟩
end Go.Proofs.Ytcogcfnbgicjcaa
