/-
  NetPlays: the walk.
-/
import Derived.Test.YtledoopfffhigaaT15
import Derived.OrdersHeld
namespace Go.Proofs.Ytledoopfffhigaa
open Go.RowKit Nt

theorem ks_kpT {w w' : World} {T : List Nat} (h : Ks w.heap.size T w w') : Kp [] w w' := Kp.ofBelow (h.below (Nat.le_refl _))
set_option maxHeartbeats 8000000 in
set_option maxRecDepth 100000 in
theorem nplays_walk (nodes : Int) (ad : Option Addr) (cap : Nat) (l : List A18) (w : World) (_hl : l.length ≤ 9223372036854775807) (hA : A18At w ad l) (hok : ∀ y ∈ l, y.ok) :
    Calls Try.prog 3 #[.int .i64 nodes, .slice ad l.length cap] w fun e w' => e = .returned (.bool true) ∧ Below w.heap.size w w' := by
  have WK := hide nworks_any
  have HL := hide hA
  have HOK := hide hok
  clear hA hok
  by_cases hn : nodes < 1 ∨ 17 < nodes
  · have NW := hide (fun W => nnew_not nodes W hn)
    have RW := hide (fun W => rnnew_not nodes W hn)
    clear hn
    go_enter Try.func3, Try.ntmps3
    go_wp2_with fail
    refine (unhide NW _).mono ?_
    rintro r w1 ⟨rfl, hw1⟩
    obtain rfl := hw1.symm
    go_wp2_with fail
    refine (unhide RW _).mono ?_
    rintro r w2 ⟨rfl, hw2⟩
    obtain rfl := hw2.symm
    clear NW RW
    go_wp2_with fail
    go_loopw [] (fun wr => wr = w) (fun _ => 0)
    case atStart => rfl
    case round =>
      subst hrel
      go_wp2_with fail
      refine (unhide WK _).mono ?_
      rintro r w3 ⟨rfl, k3⟩
      have K3 := hide k3
      clear k3 WK
      go_wp2
      go_ret
      exact ⟨rfl, (unhide K3).below (Nat.le_refl _) (by simp)⟩
  · obtain ⟨nn, rfl⟩ : ∃ nn : Nat, nodes = (nn : Int) := ⟨nodes.toNat, by omega⟩
    have hn1 : 1 ≤ nn := by omega
    have hn2 : nn ≤ 17 := by omega
    clear hn
    have NW := hide (nnew_ok nn hn1 hn2 w)
    have RW := hide (fun W => rnnew_ok nn hn2 hn1 W)
    have O0 := hide (Ok.new nn hn1 hn2)
    go_enter Try.func3, Try.ntmps3
    go_wp2_with fail
    refine (unhide NW).mono ?_
    rintro r w1 ⟨b, rfl, h1, k1⟩
    have H1 := hide h1
    have K1 := hide k1
    clear NW h1 k1
    go_wp2_with fail
    refine (unhide RW _).mono ?_
    rintro r w2 ⟨g, rfl, h2, k2⟩
    have HB0 : Hid (Bo w.heap.size b g (new nn) 0 w2 ∧ Ks w.heap.size bothT w w2) := hide (by
      obtain ⟨⟨q, vs, a1, a2⟩, a3⟩ := (⟨unhide H1, trivial⟩ : NtAt w.heap.size w1 b (new nn) ∧ True)
      obtain ⟨q', vs', b1, b2⟩ := h2
      have hs := (unhide K1).size
      exact ⟨⟨(nt_same a1 a2 k2).1, ⟨q', vs', b1, by omega⟩, unhide O0⟩, Ks.nil (kp_tr (unhide K1) k2)⟩)
    clear RW h2 k2 H1 K1 O0
    go_wp2_with fail
    go_loopw [9] (fun iv wr => ∃ (i : Nat) (s : St), i ≤ l.length ∧ i ≤ 300 ∧ iv = .int .i64 (i : Int) ∧ Hid (Bo w.heap.size b g s (69632 * (i : Int)) wr ∧ Ks w.heap.size bothT w wr)) (fun iv _ => l.length - (intOf iv).toNat)
    case atStart => exact ⟨0, new nn, Nat.zero_le _, by decide, rfl, HB0⟩
    case round =>
      clear HB0
      obtain ⟨i, s, hil, hi3, rfl, HR⟩ := hrel
      by_cases h1 : i < l.length
      · have h1i : (i : Int) < (l.length : Int) := by omega
        by_cases h2 : i < 300
        · have h2i : (i : Int) < 300 := by omega
          have hyok := unhide HOK l[i] (List.getElem_mem h1)
          obtain ⟨ab, ao, rfl, _, _⟩ := (unhide HL).at i h1
          have ACT : Hid (∀ W, Ks w.heap.size bothT w W → W.cell? ⟨ab, ao + i * 5, none⟩ = some (.int .i64 (l[i]).k) ∧ W.cell? ⟨ab, ao + i * 5 + 1, none⟩ = some (.int .i64 (l[i]).f) ∧ W.cell? ⟨ab, ao + i * 5 + 2, none⟩ = some (.int .i64 (l[i]).t) ∧ W.cell? ⟨ab, ao + i * 5 + 3, none⟩ = some (.int .i64 (l[i]).i) ∧ W.cell? ⟨ab, ao + i * 5 + 4, none⟩ = some (.string (l[i]).b)) := hide (fun W hk => by
            obtain ⟨ab', ao', e, _, c⟩ := ((unhide HL).kp (ks_kpT hk)).at i h1
            injection e with e
            injection e with e1 e2
            subst e1
            subst e2
            exact c)
          have ST := hide (nstep18_any w.heap.size b g s (69632 * (i : Int)) (l[i]).k (l[i]).f (l[i]).t (l[i]).i (l[i]).b wr.drew ((unhide HR).1.al (Kp.drew wr)) (by omega) hyok.2.2.2.2)
          have HKS : Hid (Ks w.heap.size bothT w wr.drew) := hide ((unhide HR).2.trans (Ks.nil (Kp.drew wr)))
          obtain ⟨M2, hM2⟩ : ∃ M2, M2 = 69632 * (i : Int) + 69632 := ⟨_, rfl⟩
          rw [← hM2] at ST
          have HM2 : Hid (69632 * ((i + 1 : Nat) : Int) = M2) := hide (by omega)
          clear HR hyok hM2
          generalize l[i] = y at *
          obtain ⟨yk, yf, yt, yi, yb⟩ := y
          dsimp only at ST ACT
          generalize nx (yk % 6) yf yt yi yb s = s2 at *
          have CN := hide (fun W (h : NtAt w.heap.size W b s2) => ncounts_any w.heap.size b s2 W h)
          have HRC : Hid (∀ W, RnAt w.heap.size W g s2 → W.cell? ⟨g, 1, none⟩ = some (.int .i64 (s2.c 0)) ∧ W.cell? ⟨g, 2, none⟩ = some (.int .i64 (s2.c 1)) ∧ W.cell? ⟨g, 3, none⟩ = some (.int .i64 (s2.c 2)) ∧ W.cell? ⟨g, 4, none⟩ = some (.int .i64 (s2.c 3))) := hide (fun W h => by
            obtain ⟨q, vs, h, _⟩ := h
            exact ⟨h.box.cell rfl, h.box.cell rfl, h.box.cell rfl, h.box.cell rfl⟩)
          unfold q4 at CN
          have E4 := fun a0 a1 a2 a3 b0 b1 b2 b3 W => eq4i 9998 a0 a1 a2 a3 b0 b1 b2 b3 W
          obtain ⟨c0, hc0⟩ : ∃ c0, s2.c 0 = c0 := ⟨_, rfl⟩
          obtain ⟨c1, hc1⟩ : ∃ c1, s2.c 1 = c1 := ⟨_, rfl⟩
          obtain ⟨c2, hc2⟩ : ∃ c2, s2.c 2 = c2 := ⟨_, rfl⟩
          obtain ⟨c3, hc3⟩ : ∃ c3, s2.c 3 = c3 := ⟨_, rfl⟩
          rw [hc0, hc1, hc2, hc3] at CN HRC
          clear hc0 hc1 hc2 hc3
          have a0 := unhide ACT wr.drew (unhide HKS)
          go_upto_region 8 with fail
          refine wp_region_held_drew (S := fun W => W.cell? ⟨ab, ao + i * 5, none⟩ = some (.int .i64 yk) ∧ W.cell? ⟨ab, ao + i * 5 + 1, none⟩ = some (.int .i64 yf) ∧ W.cell? ⟨ab, ao + i * 5 + 2, none⟩ = some (.int .i64 yt) ∧ W.cell? ⟨ab, ao + i * 5 + 3, none⟩ = some (.int .i64 yi) ∧ W.cell? ⟨ab, ao + i * 5 + 4, none⟩ = some (.string yb)) (by kernel_rfl) (by exact a0) (fun hHeld => ?_)
          show wpAnyH _ _ _ _ _ 17 (Array.replicate 17 false) _ _
          refine wpAnyH_take (i := 0) (oi := { dst := some 46, op := Op.move (Operand.tmp 5), type := 23, pos := "law.go:50", after := #[], guard := none }) (v := ?_) rfl (by kernel_rfl) (by kernel_rfl) (by kernel_rfl) (fun _ _ _ h => h) (Or.inl ⟨by rfl, ?_⟩) (by assumption) ?_
          rotate_left 1
          · intro w0 hSw
            (try dsimp only at hSw)
            go_simp
            (try with_reducible rfl)
          try simp only [Act.put, List.setIfInBounds_toArray, List.set_cons_zero, List.set_cons_succ]
          refine wpAnyH_take (i := 1) (oi := { dst := some 47, op := Op.move (Operand.tmp 7), type := 27, pos := "law.go:50", after := #[], guard := none }) (v := ?_) rfl (by kernel_rfl) (by kernel_rfl) (by kernel_rfl) (fun _ _ _ h => h) (Or.inl ⟨by rfl, ?_⟩) (by assumption) ?_
          rotate_left 1
          · intro w0 hSw
            (try dsimp only at hSw)
            go_simp
            (try with_reducible rfl)
          try simp only [Act.put, List.setIfInBounds_toArray, List.set_cons_zero, List.set_cons_succ]
          refine wpAnyH_take (i := 2) (oi := { dst := some 48, op := Op.move (Operand.tmp 1), type := 22, pos := "law.go:50", after := #[], guard := none }) (v := ?_) rfl (by kernel_rfl) (by kernel_rfl) (by kernel_rfl) (fun _ _ _ h => h) (Or.inl ⟨by rfl, ?_⟩) (by assumption) ?_
          rotate_left 1
          · intro w0 hSw
            (try dsimp only at hSw)
            go_simp
            (try with_reducible rfl)
          try simp only [Act.put, List.setIfInBounds_toArray, List.set_cons_zero, List.set_cons_succ]
          refine wpAnyH_take (i := 3) (oi := { dst := some 49, op := Op.move (Operand.tmp 9), type := 3, pos := "law.go:50", after := #[], guard := none }) (v := ?_) rfl (by kernel_rfl) (by kernel_rfl) (by kernel_rfl) (fun _ _ _ h => h) (Or.inl ⟨by rfl, ?_⟩) (by assumption) ?_
          rotate_left 1
          · intro w0 hSw
            (try dsimp only at hSw)
            go_simp
            (try with_reducible rfl)
          try simp only [Act.put, List.setIfInBounds_toArray, List.set_cons_zero, List.set_cons_succ]
          refine wpAnyH_take (i := 4) (oi := { dst := some 50, op := Op.indexAddr 22 (Operand.tmp 48) (Operand.tmp 49), type := 0, pos := "law.go:50", after := #[{ on := 2, ground := Ground.data }, { on := 3, ground := Ground.data }], guard := none }) (v := ?_) rfl (by kernel_rfl) (by kernel_rfl) (by kernel_rfl) (fun _ _ _ h => h) (Or.inl ⟨by rfl, ?_⟩) (by assumption) ?_
          rotate_left 1
          · intro w0 hSw
            (try dsimp only at hSw)
            go_simp
            (try with_reducible rfl)
          try simp only [Act.put, List.setIfInBounds_toArray, List.set_cons_zero, List.set_cons_succ]
          refine wpAnyH_take (i := 5) (oi := { dst := some 51, op := Op.load 32 (Operand.tmp 50), type := 32, pos := "law.go:50", after := #[{ on := 4, ground := Ground.data }], guard := none }) (v := ?_) rfl (by kernel_rfl) (by kernel_rfl) (by kernel_rfl) (fun _ _ _ h => h) (Or.inl ⟨by rfl, ?_⟩) (by assumption) ?_
          rotate_left 1
          · intro w0 hSw
            (try dsimp only at hSw)
            go_simp
            (try with_reducible rfl)
          try simp only [Act.put, List.setIfInBounds_toArray, List.set_cons_zero, List.set_cons_succ]
          refine wpAnyH_ready (rs := [6]) (by kernel_rfl) (by simp) ?_
          refine AllReadyH.cons (o := { dst := some 52, op := Op.call { callee := Callee.value (Operand.func 9), args := #[Operand.tmp 46, Operand.tmp 47, Operand.tmp 51], argTypes := #[23, 27, 32] }, type := 4, pos := "law.go:50", after := #[{ on := 0, ground := Ground.data }, { on := 1, ground := Ground.data }, { on := 5, ground := Ground.data }], guard := none }) rfl (fun K hK => ?_) AllReadyH.nil
          go_simp
          refine (unhide ST).mono ?_
          rintro r w4 ⟨rfl, hbo, hks⟩
          have HBO := hide hbo
          have HK4 := hide ((unhide HKS).trans hks)
          have s4 := unhide ACT w4 (unhide HK4)
          clear hbo hks
          refine hK.out _ _ ?_ (fun hHeld => ?_)
          · exact s4
          clear hK K
          try simp only [Act.put, List.setIfInBounds_toArray, List.set_cons_zero, List.set_cons_succ]
          refine wpAnyH_take (i := 7) (oi := { dst := some 53, op := Op.unOp UnOp.not 4 (Operand.tmp 52), type := 4, pos := "law.go:50", after := #[{ on := 6, ground := Ground.data }], guard := none }) (v := ?_) rfl (by kernel_rfl) (by kernel_rfl) (by kernel_rfl) (fun _ _ _ h => h) (Or.inl ⟨by rfl, ?_⟩) (by assumption) ?_
          rotate_left 1
          · intro w0 hSw
            (try dsimp only at hSw)
            go_simp
            (try with_reducible rfl)
          try simp only [Act.put, List.setIfInBounds_toArray, List.set_cons_zero, List.set_cons_succ]
          refine wpAnyH_take (i := 8) (oi := { dst := some 54, op := Op.move (Operand.tmp 53), type := 4, pos := "law.go:50", after := #[{ on := 7, ground := Ground.data }, { on := 6, ground := Ground.chain }], guard := none }) (v := ?_) rfl (by kernel_rfl) (by kernel_rfl) (by kernel_rfl) (fun _ _ _ h => h) (Or.inl ⟨by rfl, ?_⟩) (by assumption) ?_
          rotate_left 1
          · intro w0 hSw
            (try dsimp only at hSw)
            go_simp
            (try with_reducible rfl)
          try simp only [Act.put, List.setIfInBounds_toArray, List.set_cons_zero, List.set_cons_succ]
          refine wpAnyH_take (i := 9) (oi := { dst := some 55, op := Op.move (Operand.tmp 5), type := 23, pos := "law.go:50", after := #[{ on := 8, ground := Ground.guard }], guard := some (8, false) }) (v := ?_) rfl (by kernel_rfl) (by kernel_rfl) (by kernel_rfl) (fun _ _ _ h => h) (Or.inl ⟨by rfl, ?_⟩) (by assumption) ?_
          rotate_left 1
          · intro w0 hSw
            (try dsimp only at hSw)
            go_simp
            (try with_reducible rfl)
          try simp only [Act.put, List.setIfInBounds_toArray, List.set_cons_zero, List.set_cons_succ]
          refine wpAnyH_take (i := 11) (oi := { dst := some 57, op := Op.move (Operand.tmp 7), type := 27, pos := "law.go:50", after := #[{ on := 8, ground := Ground.guard }], guard := some (8, false) }) (v := ?_) rfl (by kernel_rfl) (by kernel_rfl) (by kernel_rfl) (fun _ _ _ h => h) (Or.inl ⟨by rfl, ?_⟩) (by assumption) ?_
          rotate_left 1
          · intro w0 hSw
            (try dsimp only at hSw)
            go_simp
            (try with_reducible rfl)
          try simp only [Act.put, List.setIfInBounds_toArray, List.set_cons_zero, List.set_cons_succ]
          refine wpAnyH_take (i := 12) (oi := { dst := some 58, op := Op.nilCheck (Operand.tmp 57), type := 0, pos := "law.go:50", after := #[{ on := 11, ground := Ground.data }, { on := 8, ground := Ground.guard }], guard := some (8, false) }) (v := ?_) rfl (by kernel_rfl) (by kernel_rfl) (by kernel_rfl) (fun _ _ _ h => h) (Or.inl ⟨by rfl, ?_⟩) (by assumption) ?_
          rotate_left 1
          · intro w0 hSw
            (try dsimp only at hSw)
            go_simp
            (try with_reducible rfl)
          try simp only [Act.put, List.setIfInBounds_toArray, List.set_cons_zero, List.set_cons_succ]
          refine wpAnyH_take (i := 13) (oi := { dst := some 59, op := Op.fieldAddr 37 (Operand.tmp 58) 1, type := 0, pos := "law.go:50", after := #[{ on := 12, ground := Ground.data }, { on := 8, ground := Ground.guard }], guard := some (8, false) }) (v := ?_) rfl (by kernel_rfl) (by kernel_rfl) (by kernel_rfl) (fun _ _ _ h => h) (Or.inl ⟨by rfl, ?_⟩) (by assumption) ?_
          rotate_left 1
          · intro w0 hSw
            (try dsimp only at hSw)
            go_simp
            (try with_reducible rfl)
          try simp only [Act.put, List.setIfInBounds_toArray, List.set_cons_zero, List.set_cons_succ]
          obtain ⟨q40, q41, q42, q43⟩ := unhide HRC _ (unhide HBO).rn
          refine wpAnyH_ready (rs := [10, 14]) (by kernel_rfl) (by simp) ?_
          refine AllReadyH.cons (o := { dst := some 56, op := Op.call { callee := Callee.value (Operand.func 10), args := #[Operand.tmp 55], argTypes := #[23] }, type := 33, pos := "law.go:50", after := #[{ on := 9, ground := Ground.data }, { on := 8, ground := Ground.chain }, { on := 8, ground := Ground.guard }], guard := some (8, false) }) rfl (fun K hK => ?_) (AllReadyH.cons (o := { dst := some 60, op := Op.load 33 (Operand.tmp 59), type := 33, pos := "law.go:50", after := #[{ on := 13, ground := Ground.data }, { on := 8, ground := Ground.guard }], guard := some (8, false) }) rfl (fun K hK => ?_) AllReadyH.nil)
          · go_simp
            refine (unhide CN _ (unhide HBO).nt).mono ?_
            rintro r w5 ⟨rfl, hk5⟩
            have q5 := (unhide HRC _ ((unhide HBO).al hk5).rn)
            obtain ⟨q50, q51, q52, q53⟩ := q5
            have HFIN : Hid (Bo w.heap.size b g s2 M2 w5 ∧ Ks w.heap.size bothT w w5) := hide ⟨(unhide HBO).al hk5, (unhide HK4).trans (Ks.nil hk5)⟩
            have s5 := unhide ACT w5 (unhide HFIN).2
            clear hk5
            refine hK.out _ _ ?_ (fun hHeld => ?_)
            · exact s5
            clear hK K
            try simp only [Act.put, List.setIfInBounds_toArray, List.set_cons_zero, List.set_cons_succ]
            refine wpAnyH_ready (rs := [14]) (by kernel_rfl) (by simp) ?_
            refine AllReadyH.cons (o := { dst := some 60, op := Op.load 33 (Operand.tmp 59), type := 33, pos := "law.go:50", after := #[{ on := 13, ground := Ground.data }, { on := 8, ground := Ground.guard }], guard := some (8, false) }) rfl (fun K hK => ?_) AllReadyH.nil
            go_simp
            refine hK.out _ _ ?_ (fun hHeld => ?_)
            · exact s5
            clear hK K
            try simp only [Act.put, List.setIfInBounds_toArray, List.set_cons_zero, List.set_cons_succ]
            have E5 := E4 c0 c1 c2 c3 c0 c1 c2 c3 w5
            refine wpAnyH_take (i := 15) (oi := { dst := some 61, op := Op.binOp BinOp.neq 33 (Operand.tmp 56) (Operand.tmp 60) 33, type := 4, pos := "law.go:50", after := #[{ on := 10, ground := Ground.data }, { on := 14, ground := Ground.data }, { on := 8, ground := Ground.guard }], guard := some (8, false) }) (v := ?_) rfl (by kernel_rfl) (by kernel_rfl) (by kernel_rfl) (fun _ _ _ h => h) (Or.inl ⟨by rfl, ?_⟩) (by assumption) ?_
            rotate_left 1
            · intro w0 hSw
              (try dsimp only at hSw)
              go_simp
              (try with_reducible rfl)
            try simp only [Act.put, List.setIfInBounds_toArray, List.set_cons_zero, List.set_cons_succ]
            refine wpAnyH_take (i := 16) (oi := { dst := some 62, op := Op.pick (Operand.tmp 54) (Operand.const (Value.bool true)) (Operand.tmp 61), type := 4, pos := "law.go:50", after := #[{ on := 8, ground := Ground.data }, { on := 15, ground := Ground.data }], guard := none }) (v := ?_) rfl (by kernel_rfl) (by kernel_rfl) (by kernel_rfl) (fun _ _ _ h => h) (Or.inl ⟨by rfl, ?_⟩) (by assumption) ?_
            rotate_left 1
            · intro w0 hSw
              (try dsimp only at hSw)
              go_simp
              (try with_reducible rfl)
            try simp only [Act.put, List.setIfInBounds_toArray, List.set_cons_zero, List.set_cons_succ]
            refine wpAnyH_done (by kernel_rfl) ?_ _
            clear HBO HK4 s4
            go_wp2
            go_roundw
            case rel => exact ⟨i + 1, s2, by omega, by omega, by go_num, by rw [unhide HM2]; exact HFIN⟩
            case measure => simp [intOf]; omega

          · go_simp
            refine hK.out _ _ ?_ (fun hHeld => ?_)
            · exact s4
            clear hK K
            try simp only [Act.put, List.setIfInBounds_toArray, List.set_cons_zero, List.set_cons_succ]
            refine wpAnyH_ready (rs := [10]) (by kernel_rfl) (by simp) ?_
            refine AllReadyH.cons (o := { dst := some 56, op := Op.call { callee := Callee.value (Operand.func 10), args := #[Operand.tmp 55], argTypes := #[23] }, type := 33, pos := "law.go:50", after := #[{ on := 9, ground := Ground.data }, { on := 8, ground := Ground.chain }, { on := 8, ground := Ground.guard }], guard := some (8, false) }) rfl (fun K hK => ?_) AllReadyH.nil
            go_simp
            refine (unhide CN _ (unhide HBO).nt).mono ?_
            rintro r w5 ⟨rfl, hk5⟩
            have HFIN : Hid (Bo w.heap.size b g s2 M2 w5 ∧ Ks w.heap.size bothT w w5) := hide ⟨(unhide HBO).al hk5, (unhide HK4).trans (Ks.nil hk5)⟩
            have s5 := unhide ACT w5 (unhide HFIN).2
            clear hk5
            refine hK.out _ _ ?_ (fun hHeld => ?_)
            · exact s5
            clear hK K
            try simp only [Act.put, List.setIfInBounds_toArray, List.set_cons_zero, List.set_cons_succ]
            have E5 := E4 c0 c1 c2 c3 c0 c1 c2 c3 w5
            refine wpAnyH_take (i := 15) (oi := { dst := some 61, op := Op.binOp BinOp.neq 33 (Operand.tmp 56) (Operand.tmp 60) 33, type := 4, pos := "law.go:50", after := #[{ on := 10, ground := Ground.data }, { on := 14, ground := Ground.data }, { on := 8, ground := Ground.guard }], guard := some (8, false) }) (v := ?_) rfl (by kernel_rfl) (by kernel_rfl) (by kernel_rfl) (fun _ _ _ h => h) (Or.inl ⟨by rfl, ?_⟩) (by assumption) ?_
            rotate_left 1
            · intro w0 hSw
              (try dsimp only at hSw)
              go_simp
              (try with_reducible rfl)
            try simp only [Act.put, List.setIfInBounds_toArray, List.set_cons_zero, List.set_cons_succ]
            refine wpAnyH_take (i := 16) (oi := { dst := some 62, op := Op.pick (Operand.tmp 54) (Operand.const (Value.bool true)) (Operand.tmp 61), type := 4, pos := "law.go:50", after := #[{ on := 8, ground := Ground.data }, { on := 15, ground := Ground.data }], guard := none }) (v := ?_) rfl (by kernel_rfl) (by kernel_rfl) (by kernel_rfl) (fun _ _ _ h => h) (Or.inl ⟨by rfl, ?_⟩) (by assumption) ?_
            rotate_left 1
            · intro w0 hSw
              (try dsimp only at hSw)
              go_simp
              (try with_reducible rfl)
            try simp only [Act.put, List.setIfInBounds_toArray, List.set_cons_zero, List.set_cons_succ]
            refine wpAnyH_done (by kernel_rfl) ?_ _
            clear HBO HK4 s4
            go_wp2
            go_roundw
            case rel => exact ⟨i + 1, s2, by omega, by omega, by go_num, by rw [unhide HM2]; exact HFIN⟩
            case measure => simp [intOf]; omega

        · have h2i : ¬ (i : Int) < 300 := by omega
          have h0 := hide (unhide HR).2
          clear HR
          go_wp2_with fail
          refine (unhide WK _).mono ?_
          rintro r w3 ⟨rfl, k3⟩
          have K3 := hide ((unhide h0).trans (Ks.nil k3))
          clear k3 WK h0
          go_wp2
          go_ret
          exact ⟨rfl, (unhide K3).below (Nat.le_refl _)⟩
      · have h1i : ¬ (i : Int) < (l.length : Int) := by omega
        have h0 := hide (unhide HR).2
        clear HR
        go_wp2_with fail
        refine (unhide WK _).mono ?_
        rintro r w3 ⟨rfl, k3⟩
        have K3 := hide ((unhide h0).trans (Ks.nil k3))
        clear k3 WK h0
        go_wp2
        go_ret
        exact ⟨rfl, (unhide K3).below (Nat.le_refl _)⟩
end Go.Proofs.Ytledoopfffhigaa
