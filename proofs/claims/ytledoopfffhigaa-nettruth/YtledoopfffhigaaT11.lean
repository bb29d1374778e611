/-
  The document's net: Send.
-/
import Derived.Test.YtledoopfffhigaaT10
namespace Go.Proofs.Ytledoopfffhigaa
open Go.RowKit Nt

/-- A row of cells of the call's own. -/
def RpRowN (w : World) (v : Value) (n : Nat) (xs : List Value) : Prop := w.ownsRow 0 79 2 v n xs
theorem RpRowN.al {w w' : World} {v : Value} {n : Nat} {xs : List Value} (h : RpRowN w v n xs) (hk : Kp [] w w') : w'.ownsRow 0 79 2 v n xs := by
  obtain ⟨h1, h2 | ⟨g, cp, cur, rfl, hb, hh, r⟩⟩ := h
  · exact ⟨h1, Or.inl h2⟩
  · exact ⟨h1, Or.inr ⟨g, cp, cur, rfl, hb, (hk.block g (Array.getElem?_eq_some_iff.1 hh).1 (by simp)).trans hh, r⟩⟩
theorem CBox.gr3 {b g2 : Nat} {cs : Array Value} {t : TypeId} {W w5 : World} (h : CBox b cs t W) (hg : W.grownBy w5 (some g2)) (hne : b ≠ g2) : CBox b cs t w5 := h.kp (Kp.of hg) (by simpa using hne)
set_option maxHeartbeats 40000000 in
set_option maxRecDepth 100000 in
theorem rsend_any (B g : Nat) (s : St) (f t : Int) (x : ByteArray) (w : World) (M : Int) (h : RnAt B w g s) (ok : Ok M s) (hM : M ≤ 2305843009213693952) :
    Calls Try.prog 19 #[.pointer (some ⟨g, 0, none⟩), .int .i64 f, .int .i64 t, .string x] w fun e w' => e = .returned (.int .i64 (seE s f t x)) ∧ RnAt B w' g (seS s f t x) ∧ Ks B rnT w w' := by
  obtain ⟨q, vs, hn, hB⟩ := h
  have HF := hide (rnone_any g q vs s f w hn)
  have HT := hide (rnone_any g q vs s t w hn)
  have HS0 : Hid (RnAt B w g s ∧ Ks B rnT w w) := hide ⟨⟨q, vs, hn, hB⟩, Ks.refl _ _ _⟩
  unfold seS seE
  cases hf : hasN s.ws.length f with
  | false =>
    rw [hf] at HF
    simp only [Bool.false_and, Bool.false_eq_true, if_false, show ¬ ((180 : Int) = 0) by decide]
    clear hn hf
    go_enter Try.func19, Try.ntmps19
    go_wp2_with fail
    refine (unhide HF).mono ?_
    rintro r w1 ⟨rfl, rfl⟩
    go_wp2
    go_ret
    exact ⟨rfl, unhide HS0⟩
  | true =>
    rw [hf] at HF
    cases ht : hasN s.ws.length t with
    | false =>
      rw [ht] at HT
      simp only [Bool.true_and, Bool.false_eq_true, if_false, show ¬ ((180 : Int) = 0) by decide]
      clear hn hf ht
      go_enter Try.func19, Try.ntmps19
      go_wp2_with fail
      refine (unhide HF).mono ?_
      rintro r w1 ⟨rfl, rfl⟩
      go_wp2_with fail
      refine (unhide HT).mono ?_
      rintro r w1 ⟨rfl, rfl⟩
      go_wp2
      go_ret
      exact ⟨rfl, unhide HS0⟩
    | true =>
      rw [ht] at HT
      simp only [Bool.true_and, if_true]
      obtain ⟨m, rfl, hm⟩ := hasN_nat ht
      have c0 := hn.cell
      obtain ⟨ad, cap, c1, hv, hr⟩ := hn.at m hm
      have hmi : (m : Int) < (s.ws.length : Int) := by omega
      have hrl := (ok.row (m : Int)).1
      by_cases hsz : 65536 < x.size
      · have hz : (65536 : Int) < (x.size : Int) := by omega
        simp only [hsz, true_or, if_true, show ¬ ((2 : Int) = 0) by decide, if_false]
        clear hn hf ht hr hv c1
        go_enter Try.func19, Try.ntmps19
        go_wp2_with fail
        refine (unhide HF).mono ?_
        rintro r w1 ⟨rfl, rfl⟩
        go_wp2_with fail
        refine (unhide HT).mono ?_
        rintro r w1 ⟨rfl, rfl⟩
        go_wp2
        go_ret
        exact ⟨rfl, unhide HS0⟩
      · have hz : ¬ (65536 : Int) < (x.size : Int) := by omega
        by_cases hfl : (row s (m : Int)).length = 4096
        · simp only [hsz, hfl, or_true, if_true, show ¬ ((2 : Int) = 0) by decide, if_false]
          rw [hfl] at c1
          clear hn hf ht hr hv
          generalize s.ws.length = n at *
          go_enter Try.func19, Try.ntmps19
          go_wp2_with fail
          refine (unhide HF).mono ?_
          rintro r w1 ⟨rfl, rfl⟩
          go_wp2_with fail
          refine (unhide HT).mono ?_
          rintro r w1 ⟨rfl, rfl⟩
          go_wp2
          go_ret
          exact ⟨rfl, unhide HS0⟩
        · simp only [hsz, hfl, or_self, if_false, if_true]
          obtain ⟨i0, hi0, hz0, hz1, hz2⟩ := info_parts info_rp
          have hll : (row s (m : Int)).length < 4096 := by omega
          obtain ⟨V, hV⟩ : ∃ V, V = w.drew := ⟨_, rfl⟩
          have hkV : Kp [] w V := by rw [hV]; exact Kp.drew w
          have HS : Hid (∀ W, Kp [] V W → W.cell? ⟨g, 0, none⟩ = some (.slice (some ⟨q, 0, none⟩) s.ws.length s.ws.length) ∧ W.cell? ⟨q, m, none⟩ = some (.slice ad (row s (m : Int)).length cap)) := hide (fun W hk => by
            have hk0 := kp_tr hkV hk
            exact ⟨(hn.kp hk0).cell, hk0.cell c1 (by simp)⟩)
          have FZ : Hid (∀ W, Kp [] V W → W.frozen? ⟨q, m, none⟩ = false) := hide (fun W hk => (hn.kp (kp_tr hkV hk)).row.froz m)
          have LEN : Hid ((pkC (row s (m : Int))).length = (row s (m : Int)).length * 2) := hide (pkC_len _)
          have ONE : Hid (∀ u ∈ pkC (row s (m : Int)), u.oneCell' = true) := hide (pkC_cell _)
          have SRN : Hid (ad = none → (row s (m : Int)).length = 0 ∧ cap = 0) := hide (fun e => by
            rcases hr.form with ⟨e1, e2⟩ | ⟨g', c', e1, _⟩
            · injection e1 with _ _ e3; exact ⟨by rw [e2]; rfl, e3⟩
            · injection e1 with e2; rw [e] at e2; cases e2)
          have SRS : Hid (∀ a, ad = some a → a.spot = none) := hide (fun a e => by
            rcases hr.form with ⟨e1, _⟩ | ⟨g', c', e1, _⟩
            · injection e1 with e2; rw [e] at e2; cases e2
            · injection e1 with e2; rw [e] at e2; injection e2 with e2; rw [e2])
          have SRC : Hid (∀ W, Kp [] V W → ∀ a, ad = some a → ∀ j u, (pkC (row s (m : Int)))[j]? = some u → W.cell? (a.add j) = some u) := hide (fun W hk a e j u hj => by
            have hrW := hr.kp (kp_tr hkV hk) (by simp)
            subst e
            rcases hrW.form with ⟨e1, _⟩ | ⟨g', c', e1, _⟩
            · injection e1 with e2; cases e2
            · injection e1 with e2
              injection e2 with e2
              subst e2
              rw [Go.WideShapes.add_plain]
              have := hrW.from 0 (row s (m : Int)).length j u (by simpa using hj)
              simpa using this)
          have FIN : Hid (∀ W, Kp [] V W → ∀ g6 cap6, W.ownsRow 0 79 2 (.slice (some ⟨g6, 0, none⟩) ((row s (m : Int)).length + 1) cap6) ((row s (m : Int)).length + 1) (pkC [] ++ pkC (row s (m : Int)) ++ (pkA ⟨f, x⟩).toList) → ∃ vs', RnV (W.setCell ⟨q, m, none⟩ (.slice (some ⟨g6, 0, none⟩) ((row s (m : Int)).length + 1) cap6)) g q vs' ⟨s.ws.set m (row s (m : Int) ++ [⟨f, x⟩]), s.c⟩ ∧ Kp [q] w (W.setCell ⟨q, m, none⟩ (.slice (some ⟨g6, 0, none⟩) ((row s (m : Int)).length + 1) cap6))) := hide (fun W hk g6 cap6 ho => by
            obtain ⟨a1, a2⟩ := hn.put hm (kp_tr hkV hk) (v' := .slice (some ⟨g6, 0, none⟩) ((row s (m : Int)).length + 1) cap6) (l' := row s (m : Int) ++ [⟨f, x⟩]) (by
              unfold RpRow
              rw [List.length_append, pkC_append, pkC_one]
              exact ho)
            exact ⟨_, a1, a2⟩)
          have c00 := c0
          have hm2 := hm
          clear hf ht hv HS0 hkV hrl
          generalize hP : pkC (row s (m : Int)) = xs at *
          generalize hLL : (row s (m : Int)).length = L at *
          have hpn : pkC [] = [] := rfl
          rw [hpn] at FIN
          unfold pkA at FIN
          dsimp only at FIN
          clear hP hLL hpn
          obtain ⟨pf, hpf⟩ : ∃ pf : Int, pf = f := ⟨_, rfl⟩
          obtain ⟨pb, hpb⟩ : ∃ pb : ByteArray, pb = x := ⟨_, rfl⟩
          subst hpf
          subst hpb
          have kE : Kp [] V (V.alloc (.cells #[] 79)) := Kp.alloc _ _
          have kM : Kp [] V (V.alloc (.cells #[.int .i64 pf, .string pb] 79)) := Kp.alloc _ _
          have kE2 : Kp [] V ((V.alloc (.cells #[] 79)).alloc (.cells #[.int .i64 pf, .string pb] 79)) := kp_tr (Kp.alloc _ _) (Kp.alloc _ _)
          have kE3 : Kp [] V ((V.alloc (.cells #[.int .i64 pf, .string pb] 79)).alloc (.cells #[] 79)) := kp_tr (Kp.alloc _ _) (Kp.alloc _ _)
          have OE1 : Hid ((V.alloc (.cells #[] 79)).ownsRow 0 79 2 (.slice (some ⟨V.heap.size, 0, none⟩) 0 0) 0 []) := hide (RpRow.emp V)
          have OE2 : Hid (((V.alloc (.cells #[] 79)).alloc (.cells #[.int .i64 pf, .string pb] 79)).ownsRow 0 79 2 (.slice (some ⟨V.heap.size, 0, none⟩) 0 0) 0 []) := hide ((RpRow.emp V).kp (Kp.alloc _ _) (by simp))
          have OE3 : Hid (((V.alloc (.cells #[.int .i64 pf, .string pb] 79)).alloc (.cells #[] 79)).ownsRow 0 79 2 (.slice (some ⟨V.heap.size + 1, 0, none⟩) 0 0) 0 []) := hide (by
            have h := RpRow.emp (V.alloc (.cells #[.int .i64 pf, .string pb] 79))
            rw [World.size_alloc] at h
            exact h)
          have ME2 : Hid (CBox (V.heap.size + 1) #[.int .i64 pf, .string pb] 79 ((V.alloc (.cells #[] 79)).alloc (.cells #[.int .i64 pf, .string pb] 79))) := hide (by
            have h := CBox.new (V.alloc (.cells #[] 79)) #[.int .i64 pf, .string pb] 79
            rw [World.size_alloc] at h
            exact h)
          have ME3 : Hid (CBox V.heap.size #[.int .i64 pf, .string pb] 79 ((V.alloc (.cells #[.int .i64 pf, .string pb] 79)).alloc (.cells #[] 79))) := hide ((CBox.new V _ _).kp (Kp.alloc _ _) (by simp))
          have hgL : ¬ (4096 : Int) ≤ (L : Int) := by omega
          clear hr
          go_enter Try.func19, Try.ntmps19
          go_wp2_with fail
          refine (unhide HF).mono ?_
          rintro r w1 ⟨rfl, hw1⟩
          obtain rfl := hw1.symm
          go_wp2_with fail
          refine (unhide HT).mono ?_
          rintro r w1 ⟨rfl, hw1⟩
          obtain rfl := hw1.symm
          clear HF HT
          go_upto_region 5 with fail
          go_cut [] (fun wc => ∃ vs', Hid (RnV wc g q vs' ⟨s.ws.set m (row s (m : Int) ++ [⟨pf, pb⟩]), s.c⟩ ∧ Kp [q] w wc))
          case first =>
            generalize s.ws.length = n at *
            refine wp_region_late (fun W => W.cell? ⟨g, 0, none⟩ = some (.slice (some ⟨q, 0, none⟩) n n) ∧ W.cell? ⟨q, m, none⟩ = some (.slice ad L cap)) 20 (by kernel_rfl) ?_
            rw [← hV]
            clear hV
            show wpAnyL _ _ _ _ _ _ 21 (Array.replicate 21 false) _ _
            refine wpAnyL_take3 (i := 0) (oi := { dst := some 31, op := Op.move (Operand.tmp 0), type := 27, pos := "ref.go:45", after := #[], guard := none }) (v := ?_) rfl (by kernel_rfl) (by kernel_rfl) (by kernel_rfl) (by kernel_rfl) (fun _ _ _ h => h) (Or.inl ⟨by rfl, ?_⟩) (unhide HS V (Kp.refl _ _)) ?_
            rotate_left 1
            · intro w0 hSw
              (try dsimp only at hSw)
              go_simp
              (try with_reducible rfl)
            try simp only [Act.put, List.setIfInBounds_toArray, List.set_cons_zero, List.set_cons_succ]
            refine wpAnyL_take3 (i := 1) (oi := { dst := some 32, op := Op.nilCheck (Operand.tmp 31), type := 0, pos := "ref.go:45", after := #[{ on := 0, ground := Ground.data }], guard := none }) (v := ?_) rfl (by kernel_rfl) (by kernel_rfl) (by kernel_rfl) (by kernel_rfl) (fun _ _ _ h => h) (Or.inl ⟨by rfl, ?_⟩) (unhide HS V (Kp.refl _ _)) ?_
            rotate_left 1
            · intro w0 hSw
              (try dsimp only at hSw)
              go_simp
              (try with_reducible rfl)
            try simp only [Act.put, List.setIfInBounds_toArray, List.set_cons_zero, List.set_cons_succ]
            refine wpAnyL_take3 (i := 2) (oi := { dst := some 33, op := Op.fieldAddr 37 (Operand.tmp 32) 0, type := 0, pos := "ref.go:45", after := #[{ on := 1, ground := Ground.data }], guard := none }) (v := ?_) rfl (by kernel_rfl) (by kernel_rfl) (by kernel_rfl) (by kernel_rfl) (fun _ _ _ h => h) (Or.inl ⟨by rfl, ?_⟩) (unhide HS V (Kp.refl _ _)) ?_
            rotate_left 1
            · intro w0 hSw
              (try dsimp only at hSw)
              go_simp
              (try with_reducible rfl)
            try simp only [Act.put, List.setIfInBounds_toArray, List.set_cons_zero, List.set_cons_succ]
            refine wpAnyL_take3 (i := 3) (oi := { dst := some 34, op := Op.load 35 (Operand.tmp 33), type := 35, pos := "ref.go:45", after := #[{ on := 2, ground := Ground.data }], guard := none }) (v := ?_) rfl (by kernel_rfl) (by kernel_rfl) (by kernel_rfl) (by kernel_rfl) (fun _ _ _ h => h) (Or.inl ⟨by rfl, ?_⟩) (unhide HS V (Kp.refl _ _)) ?_
            rotate_left 1
            · intro w0 hSw
              (try dsimp only at hSw)
              go_simp
              (try with_reducible rfl)
            try simp only [Act.put, List.setIfInBounds_toArray, List.set_cons_zero, List.set_cons_succ]
            refine wpAnyL_take3 (i := 4) (oi := { dst := some 35, op := Op.move (Operand.tmp 2), type := 3, pos := "ref.go:45", after := #[], guard := none }) (v := ?_) rfl (by kernel_rfl) (by kernel_rfl) (by kernel_rfl) (by kernel_rfl) (fun _ _ _ h => h) (Or.inl ⟨by rfl, ?_⟩) (unhide HS V (Kp.refl _ _)) ?_
            rotate_left 1
            · intro w0 hSw
              (try dsimp only at hSw)
              go_simp
              (try with_reducible rfl)
            try simp only [Act.put, List.setIfInBounds_toArray, List.set_cons_zero, List.set_cons_succ]
            refine wpAnyL_take3 (i := 6) (oi := { dst := some 37, op := Op.move (Operand.tmp 0), type := 27, pos := "ref.go:45", after := #[], guard := none }) (v := ?_) rfl (by kernel_rfl) (by kernel_rfl) (by kernel_rfl) (by kernel_rfl) (fun _ _ _ h => h) (Or.inl ⟨by rfl, ?_⟩) (unhide HS V (Kp.refl _ _)) ?_
            rotate_left 1
            · intro w0 hSw
              (try dsimp only at hSw)
              go_simp
              (try with_reducible rfl)
            try simp only [Act.put, List.setIfInBounds_toArray, List.set_cons_zero, List.set_cons_succ]
            refine wpAnyL_take3 (i := 7) (oi := { dst := some 38, op := Op.nilCheck (Operand.tmp 37), type := 0, pos := "ref.go:45", after := #[{ on := 6, ground := Ground.data }], guard := none }) (v := ?_) rfl (by kernel_rfl) (by kernel_rfl) (by kernel_rfl) (by kernel_rfl) (fun _ _ _ h => h) (Or.inl ⟨by rfl, ?_⟩) (unhide HS V (Kp.refl _ _)) ?_
            rotate_left 1
            · intro w0 hSw
              (try dsimp only at hSw)
              go_simp
              (try with_reducible rfl)
            try simp only [Act.put, List.setIfInBounds_toArray, List.set_cons_zero, List.set_cons_succ]
            refine wpAnyL_take3 (i := 8) (oi := { dst := some 39, op := Op.fieldAddr 37 (Operand.tmp 38) 0, type := 0, pos := "ref.go:45", after := #[{ on := 7, ground := Ground.data }], guard := none }) (v := ?_) rfl (by kernel_rfl) (by kernel_rfl) (by kernel_rfl) (by kernel_rfl) (fun _ _ _ h => h) (Or.inl ⟨by rfl, ?_⟩) (unhide HS V (Kp.refl _ _)) ?_
            rotate_left 1
            · intro w0 hSw
              (try dsimp only at hSw)
              go_simp
              (try with_reducible rfl)
            try simp only [Act.put, List.setIfInBounds_toArray, List.set_cons_zero, List.set_cons_succ]
            refine wpAnyL_take3 (i := 9) (oi := { dst := some 40, op := Op.load 35 (Operand.tmp 39), type := 35, pos := "ref.go:45", after := #[{ on := 8, ground := Ground.data }], guard := none }) (v := ?_) rfl (by kernel_rfl) (by kernel_rfl) (by kernel_rfl) (by kernel_rfl) (fun _ _ _ h => h) (Or.inl ⟨by rfl, ?_⟩) (unhide HS V (Kp.refl _ _)) ?_
            rotate_left 1
            · intro w0 hSw
              (try dsimp only at hSw)
              go_simp
              (try with_reducible rfl)
            try simp only [Act.put, List.setIfInBounds_toArray, List.set_cons_zero, List.set_cons_succ]
            refine wpAnyL_take3 (i := 10) (oi := { dst := some 41, op := Op.move (Operand.tmp 2), type := 3, pos := "ref.go:45", after := #[], guard := none }) (v := ?_) rfl (by kernel_rfl) (by kernel_rfl) (by kernel_rfl) (by kernel_rfl) (fun _ _ _ h => h) (Or.inl ⟨by rfl, ?_⟩) (unhide HS V (Kp.refl _ _)) ?_
            rotate_left 1
            · intro w0 hSw
              (try dsimp only at hSw)
              go_simp
              (try with_reducible rfl)
            try simp only [Act.put, List.setIfInBounds_toArray, List.set_cons_zero, List.set_cons_succ]
            refine wpAnyL_take3 (i := 11) (oi := { dst := some 42, op := Op.indexAddr 35 (Operand.tmp 40) (Operand.tmp 41), type := 0, pos := "ref.go:45", after := #[{ on := 9, ground := Ground.data }, { on := 10, ground := Ground.data }], guard := none }) (v := ?_) rfl (by kernel_rfl) (by kernel_rfl) (by kernel_rfl) (by kernel_rfl) (fun _ _ _ h => h) (Or.inl ⟨by rfl, ?_⟩) (unhide HS V (Kp.refl _ _)) ?_
            rotate_left 1
            · intro w0 hSw
              (try dsimp only at hSw)
              go_simp
              (try with_reducible rfl)
            try simp only [Act.put, List.setIfInBounds_toArray, List.set_cons_zero, List.set_cons_succ]
            refine wpAnyL_take3 (i := 12) (oi := { dst := some 43, op := Op.load 77 (Operand.tmp 42), type := 77, pos := "ref.go:45", after := #[{ on := 11, ground := Ground.data }], guard := none }) (v := ?_) rfl (by kernel_rfl) (by kernel_rfl) (by kernel_rfl) (by kernel_rfl) (fun _ _ _ h => h) (Or.inl ⟨by rfl, ?_⟩) (unhide HS V (Kp.refl _ _)) ?_
            rotate_left 1
            · intro w0 hSw
              (try dsimp only at hSw)
              go_simp
              (try with_reducible rfl)
            try simp only [Act.put, List.setIfInBounds_toArray, List.set_cons_zero, List.set_cons_succ]
            refine wpAnyL_take3 (i := 14) (oi := { dst := some 45, op := Op.move (Operand.tmp 1), type := 3, pos := "ref.go:45", after := #[], guard := none }) (v := ?_) rfl (by kernel_rfl) (by kernel_rfl) (by kernel_rfl) (by kernel_rfl) (fun _ _ _ h => h) (Or.inl ⟨by rfl, ?_⟩) (unhide HS V (Kp.refl _ _)) ?_
            rotate_left 1
            · intro w0 hSw
              (try dsimp only at hSw)
              go_simp
              (try with_reducible rfl)
            try simp only [Act.put, List.setIfInBounds_toArray, List.set_cons_zero, List.set_cons_succ]
            refine wpAnyL_take3 (i := 15) (oi := { dst := some 46, op := Op.move (Operand.tmp 3), type := 9, pos := "ref.go:45", after := #[], guard := none }) (v := ?_) rfl (by kernel_rfl) (by kernel_rfl) (by kernel_rfl) (by kernel_rfl) (fun _ _ _ h => h) (Or.inl ⟨by rfl, ?_⟩) (unhide HS V (Kp.refl _ _)) ?_
            rotate_left 1
            · intro w0 hSw
              (try dsimp only at hSw)
              go_simp
              (try with_reducible rfl)
            try simp only [Act.put, List.setIfInBounds_toArray, List.set_cons_zero, List.set_cons_succ]
            refine wpAnyL_take3 (i := 16) (oi := { dst := some 47, op := Op.build 79 #[(0, Operand.tmp 45), (1, Operand.tmp 46)], type := 79, pos := "ref.go:45", after := #[{ on := 14, ground := Ground.data }, { on := 15, ground := Ground.data }], guard := none }) (v := ?_) rfl (by kernel_rfl) (by kernel_rfl) (by kernel_rfl) (by kernel_rfl) (fun _ _ _ h => h) (Or.inl ⟨by rfl, ?_⟩) (unhide HS V (Kp.refl _ _)) ?_
            rotate_left 1
            · intro w0 hSw
              (try dsimp only at hSw)
              go_simp
              (try with_reducible rfl)
            try simp only [Act.put, List.setIfInBounds_toArray, List.set_cons_zero, List.set_cons_succ]
            refine wpAnyL_two (i := 5) (j := 17) (o := { dst := some 36, op := Op.buildSlice 77 0 #[], type := 77, pos := "ref.go:45", after := #[], guard := none }) (o' := { dst := some 48, op := Op.buildSlice 77 1 #[(0, Operand.tmp 47)], type := 77, pos := "ref.go:45", after := #[{ on := 16, ground := Ground.data }], guard := none }) rfl rfl (by kernel_rfl) (fun K hK => ?_) (fun K hK => ?_)
            · go_simp
              refine hK _ _ (Or.inr (unhide HS _ kE)) ?_
              clear hK K
              try simp only [Act.put, List.setIfInBounds_toArray, List.set_cons_zero, List.set_cons_succ]
              refine wpAnyL_two (i := 13) (j := 17) (o := { dst := some 44, op := Op.call { callee := Callee.builtin Builtin.append, args := #[Operand.tmp 36, Operand.tmp 43], argTypes := #[77, 77] }, type := 77, pos := "ref.go:45", after := #[{ on := 5, ground := Ground.data }, { on := 12, ground := Ground.data }], guard := none }) (o' := { dst := some 48, op := Op.buildSlice 77 1 #[(0, Operand.tmp 47)], type := 77, pos := "ref.go:45", after := #[{ on := 16, ground := Ground.data }], guard := none }) rfl rfl (by kernel_rfl) (fun K hK => ?_) (fun K hK => ?_)
              · refine step_app_any rfl (.tmp 36) (.tmp 43) 77 rfl 79 i0 (.agg #[.int .i64 0, .string ⟨#[]⟩]) 2 24 Try.underlying77 hi0 hz0 hz1 hz2 rfl (by decide) rfl (unhide OE1) ad L cap xs rfl (unhide LEN) (unhide SRN) (unhide SRS) (unhide SRC _ kE) (unhide ONE) (by unfold maxLen; omega) (by omega) L (Nat.zero_add _) ?_
                intro g5 cap5 w5 own5 gr5 at5
                have hg5 : V.heap.size ≤ g5 := by rcases at5 with rfl | rfl <;> (try simp) <;> omega
                have k5 : Kp [] V w5 := kp_gr kE gr5 (Nat.le_refl _)
                refine hK _ _ (Or.inr (unhide HS _ k5)) ?_
                clear hK K
                try simp only [Act.put, List.setIfInBounds_toArray, List.set_cons_zero, List.set_cons_succ]
                refine wpAnyL_one (i := 17) (o := { dst := some 48, op := Op.buildSlice 77 1 #[(0, Operand.tmp 47)], type := 77, pos := "ref.go:45", after := #[{ on := 16, ground := Ground.data }], guard := none }) rfl (by kernel_rfl) (fun K hK => ?_)
                go_simp
                refine hK _ _ (Or.inr (unhide HS _ (kp_tr k5 (Kp.alloc _ _)))) ?_
                clear hK K
                try simp only [Act.put, List.setIfInBounds_toArray, List.set_cons_zero, List.set_cons_succ]
                refine wpAnyL_one (i := 18) (o := { dst := some 49, op := Op.call { callee := Callee.builtin Builtin.append, args := #[Operand.tmp 44, Operand.tmp 48], argTypes := #[77, 77] }, type := 77, pos := "ref.go:45", after := #[{ on := 13, ground := Ground.data }, { on := 17, ground := Ground.data }, { on := 13, ground := Ground.chain }], guard := none }) rfl (by kernel_rfl) (fun K hK => ?_)
                refine step_app_any rfl (.tmp 44) (.tmp 48) 77 rfl 79 i0 (.agg #[.int .i64 0, .string ⟨#[]⟩]) 2 24 Try.underlying77 hi0 hz0 hz1 hz2 rfl (by decide) rfl ((show RpRowN w5 (.slice (some ⟨g5, 0, none⟩) L cap5) L ([] ++ xs) from own5).al (Kp.alloc w5 (.cells #[.int .i64 pf, .string pb] 79))) (some ⟨w5.heap.size, 0, none⟩) 1 1 [.int .i64 pf, .string pb] rfl rfl (fun h => by cases h) (fun a ha => by injection ha with ha; subst ha; rfl) (fun a ha j u hj => by injection ha with ha; subst ha; rw [Go.WideShapes.add_plain, Nat.zero_add]; exact (CBox.new w5 #[.int .i64 pf, .string pb] _).cell (by simpa using hj)) (fun u hu => by simp at hu; rcases hu with rfl | rfl <;> rfl) (by unfold maxLen; omega) (by omega) (L + 1) rfl ?_
                intro g6 cap6 w6 own6 gr6 at6
                have k6 : Kp [] V w6 := kp_gr (kp_tr k5 (Kp.alloc _ _)) gr6 hg5
                have FN := hide (unhide FIN w6 k6 g6 cap6 own6)
                have s6 := unhide HS w6 k6
                have f6 := unhide FZ w6 k6
                refine hK _ _ (Or.inr s6) ?_
                clear hK K
                try simp only [Act.put, List.setIfInBounds_toArray, List.set_cons_zero, List.set_cons_succ]
                refine wpAnyL_one (i := 19) (o := { dst := some 50, op := Op.indexAddr 35 (Operand.tmp 34) (Operand.tmp 35), type := 0, pos := "ref.go:45", after := #[{ on := 3, ground := Ground.data }, { on := 4, ground := Ground.data }, { on := 0, ground := Ground.phase }, { on := 1, ground := Ground.phase }, { on := 2, ground := Ground.phase }, { on := 3, ground := Ground.phase }, { on := 4, ground := Ground.phase }, { on := 5, ground := Ground.phase }, { on := 6, ground := Ground.phase }, { on := 7, ground := Ground.phase }, { on := 8, ground := Ground.phase }, { on := 9, ground := Ground.phase }, { on := 10, ground := Ground.phase }, { on := 11, ground := Ground.phase }, { on := 12, ground := Ground.phase }, { on := 13, ground := Ground.phase }, { on := 14, ground := Ground.phase }, { on := 15, ground := Ground.phase }, { on := 16, ground := Ground.phase }, { on := 17, ground := Ground.phase }, { on := 18, ground := Ground.phase }], guard := none }) rfl (by kernel_rfl) (fun K hK => ?_)
                go_simp
                refine hK _ _ (Or.inr s6) ?_
                clear hK K
                try simp only [Act.put, List.setIfInBounds_toArray, List.set_cons_zero, List.set_cons_succ]
                refine wpAnyL_one (i := 20) (o := { dst := none, op := Op.store 77 (Operand.tmp 50) (Operand.tmp 49), type := 0, pos := "ref.go:45", after := #[{ on := 19, ground := Ground.data }, { on := 18, ground := Ground.data }, { on := 18, ground := Ground.chain }, { on := 0, ground := Ground.phase }, { on := 1, ground := Ground.phase }, { on := 2, ground := Ground.phase }, { on := 3, ground := Ground.phase }, { on := 4, ground := Ground.phase }, { on := 5, ground := Ground.phase }, { on := 6, ground := Ground.phase }, { on := 7, ground := Ground.phase }, { on := 8, ground := Ground.phase }, { on := 9, ground := Ground.phase }, { on := 10, ground := Ground.phase }, { on := 11, ground := Ground.phase }, { on := 12, ground := Ground.phase }, { on := 13, ground := Ground.phase }, { on := 14, ground := Ground.phase }, { on := 15, ground := Ground.phase }, { on := 16, ground := Ground.phase }, { on := 17, ground := Ground.phase }, { on := 18, ground := Ground.phase }], guard := none }) rfl (by kernel_rfl) (fun K hK => ?_)
                go_simp
                refine hK _ _ (Or.inl rfl) ?_
                clear hK K
                try simp only [Act.put, List.setIfInBounds_toArray, List.set_cons_zero, List.set_cons_succ]
                refine wpAnyL_done (by kernel_rfl) ?_ _
                go_wp2
                go_meet
                obtain ⟨vs', z1⟩ := unhide FN
                exact ⟨vs', hide z1⟩

              · go_simp
                refine hK _ _ (Or.inr (unhide HS _ kE2)) ?_
                clear hK K
                try simp only [Act.put, List.setIfInBounds_toArray, List.set_cons_zero, List.set_cons_succ]
                refine wpAnyL_one (i := 13) (o := { dst := some 44, op := Op.call { callee := Callee.builtin Builtin.append, args := #[Operand.tmp 36, Operand.tmp 43], argTypes := #[77, 77] }, type := 77, pos := "ref.go:45", after := #[{ on := 5, ground := Ground.data }, { on := 12, ground := Ground.data }], guard := none }) rfl (by kernel_rfl) (fun K hK => ?_)
                refine step_app_any rfl (.tmp 36) (.tmp 43) 77 rfl 79 i0 (.agg #[.int .i64 0, .string ⟨#[]⟩]) 2 24 Try.underlying77 hi0 hz0 hz1 hz2 rfl (by decide) rfl (unhide OE2) ad L cap xs rfl (unhide LEN) (unhide SRN) (unhide SRS) (unhide SRC _ kE2) (unhide ONE) (by unfold maxLen; omega) (by omega) L (Nat.zero_add _) ?_
                intro g5 cap5 w5 own5 gr5 at5
                have hg5 : V.heap.size ≤ g5 := by rcases at5 with rfl | rfl <;> (try simp) <;> omega
                have k5 : Kp [] V w5 := kp_gr kE2 gr5 (Nat.le_refl _)
                have m5 := (unhide ME2).gr3 gr5 (by omega)
                refine hK _ _ (Or.inr (unhide HS _ k5)) ?_
                clear hK K
                try simp only [Act.put, List.setIfInBounds_toArray, List.set_cons_zero, List.set_cons_succ]
                refine wpAnyL_one (i := 18) (o := { dst := some 49, op := Op.call { callee := Callee.builtin Builtin.append, args := #[Operand.tmp 44, Operand.tmp 48], argTypes := #[77, 77] }, type := 77, pos := "ref.go:45", after := #[{ on := 13, ground := Ground.data }, { on := 17, ground := Ground.data }, { on := 13, ground := Ground.chain }], guard := none }) rfl (by kernel_rfl) (fun K hK => ?_)
                refine step_app_any rfl (.tmp 44) (.tmp 48) 77 rfl 79 i0 (.agg #[.int .i64 0, .string ⟨#[]⟩]) 2 24 Try.underlying77 hi0 hz0 hz1 hz2 rfl (by decide) rfl own5 (some ⟨V.heap.size + 1, 0, none⟩) 1 1 [.int .i64 pf, .string pb] rfl rfl (fun h => by cases h) (fun a ha => by injection ha with ha; subst ha; rfl) (fun a ha j u hj => by injection ha with ha; subst ha; rw [Go.WideShapes.add_plain, Nat.zero_add]; exact m5.cell (by simpa using hj)) (fun u hu => by simp at hu; rcases hu with rfl | rfl <;> rfl) (by unfold maxLen; omega) (by omega) (L + 1) rfl ?_
                intro g6 cap6 w6 own6 gr6 at6
                have k6 : Kp [] V w6 := kp_gr k5 gr6 hg5
                have FN := hide (unhide FIN w6 k6 g6 cap6 own6)
                have s6 := unhide HS w6 k6
                have f6 := unhide FZ w6 k6
                refine hK _ _ (Or.inr s6) ?_
                clear hK K
                try simp only [Act.put, List.setIfInBounds_toArray, List.set_cons_zero, List.set_cons_succ]
                refine wpAnyL_one (i := 19) (o := { dst := some 50, op := Op.indexAddr 35 (Operand.tmp 34) (Operand.tmp 35), type := 0, pos := "ref.go:45", after := #[{ on := 3, ground := Ground.data }, { on := 4, ground := Ground.data }, { on := 0, ground := Ground.phase }, { on := 1, ground := Ground.phase }, { on := 2, ground := Ground.phase }, { on := 3, ground := Ground.phase }, { on := 4, ground := Ground.phase }, { on := 5, ground := Ground.phase }, { on := 6, ground := Ground.phase }, { on := 7, ground := Ground.phase }, { on := 8, ground := Ground.phase }, { on := 9, ground := Ground.phase }, { on := 10, ground := Ground.phase }, { on := 11, ground := Ground.phase }, { on := 12, ground := Ground.phase }, { on := 13, ground := Ground.phase }, { on := 14, ground := Ground.phase }, { on := 15, ground := Ground.phase }, { on := 16, ground := Ground.phase }, { on := 17, ground := Ground.phase }, { on := 18, ground := Ground.phase }], guard := none }) rfl (by kernel_rfl) (fun K hK => ?_)
                go_simp
                refine hK _ _ (Or.inr s6) ?_
                clear hK K
                try simp only [Act.put, List.setIfInBounds_toArray, List.set_cons_zero, List.set_cons_succ]
                refine wpAnyL_one (i := 20) (o := { dst := none, op := Op.store 77 (Operand.tmp 50) (Operand.tmp 49), type := 0, pos := "ref.go:45", after := #[{ on := 19, ground := Ground.data }, { on := 18, ground := Ground.data }, { on := 18, ground := Ground.chain }, { on := 0, ground := Ground.phase }, { on := 1, ground := Ground.phase }, { on := 2, ground := Ground.phase }, { on := 3, ground := Ground.phase }, { on := 4, ground := Ground.phase }, { on := 5, ground := Ground.phase }, { on := 6, ground := Ground.phase }, { on := 7, ground := Ground.phase }, { on := 8, ground := Ground.phase }, { on := 9, ground := Ground.phase }, { on := 10, ground := Ground.phase }, { on := 11, ground := Ground.phase }, { on := 12, ground := Ground.phase }, { on := 13, ground := Ground.phase }, { on := 14, ground := Ground.phase }, { on := 15, ground := Ground.phase }, { on := 16, ground := Ground.phase }, { on := 17, ground := Ground.phase }, { on := 18, ground := Ground.phase }], guard := none }) rfl (by kernel_rfl) (fun K hK => ?_)
                go_simp
                refine hK _ _ (Or.inl rfl) ?_
                clear hK K
                try simp only [Act.put, List.setIfInBounds_toArray, List.set_cons_zero, List.set_cons_succ]
                refine wpAnyL_done (by kernel_rfl) ?_ _
                go_wp2
                go_meet
                obtain ⟨vs', z1⟩ := unhide FN
                exact ⟨vs', hide z1⟩


            · go_simp
              refine hK _ _ (Or.inr (unhide HS _ kM)) ?_
              clear hK K
              try simp only [Act.put, List.setIfInBounds_toArray, List.set_cons_zero, List.set_cons_succ]
              refine wpAnyL_one (i := 5) (o := { dst := some 36, op := Op.buildSlice 77 0 #[], type := 77, pos := "ref.go:45", after := #[], guard := none }) rfl (by kernel_rfl) (fun K hK => ?_)
              go_simp
              refine hK _ _ (Or.inr (unhide HS _ kE3)) ?_
              clear hK K
              try simp only [Act.put, List.setIfInBounds_toArray, List.set_cons_zero, List.set_cons_succ]
              refine wpAnyL_one (i := 13) (o := { dst := some 44, op := Op.call { callee := Callee.builtin Builtin.append, args := #[Operand.tmp 36, Operand.tmp 43], argTypes := #[77, 77] }, type := 77, pos := "ref.go:45", after := #[{ on := 5, ground := Ground.data }, { on := 12, ground := Ground.data }], guard := none }) rfl (by kernel_rfl) (fun K hK => ?_)
              refine step_app_any rfl (.tmp 36) (.tmp 43) 77 rfl 79 i0 (.agg #[.int .i64 0, .string ⟨#[]⟩]) 2 24 Try.underlying77 hi0 hz0 hz1 hz2 rfl (by decide) rfl (unhide OE3) ad L cap xs rfl (unhide LEN) (unhide SRN) (unhide SRS) (unhide SRC _ kE3) (unhide ONE) (by unfold maxLen; omega) (by omega) L (Nat.zero_add _) ?_
              intro g5 cap5 w5 own5 gr5 at5
              have hg5 : V.heap.size ≤ g5 := by rcases at5 with rfl | rfl <;> (try simp) <;> omega
              have k5 : Kp [] V w5 := kp_gr kE3 gr5 (by omega)
              have m5 := (unhide ME3).gr3 gr5 (by omega)
              refine hK _ _ (Or.inr (unhide HS _ k5)) ?_
              clear hK K
              try simp only [Act.put, List.setIfInBounds_toArray, List.set_cons_zero, List.set_cons_succ]
              refine wpAnyL_one (i := 18) (o := { dst := some 49, op := Op.call { callee := Callee.builtin Builtin.append, args := #[Operand.tmp 44, Operand.tmp 48], argTypes := #[77, 77] }, type := 77, pos := "ref.go:45", after := #[{ on := 13, ground := Ground.data }, { on := 17, ground := Ground.data }, { on := 13, ground := Ground.chain }], guard := none }) rfl (by kernel_rfl) (fun K hK => ?_)
              refine step_app_any rfl (.tmp 44) (.tmp 48) 77 rfl 79 i0 (.agg #[.int .i64 0, .string ⟨#[]⟩]) 2 24 Try.underlying77 hi0 hz0 hz1 hz2 rfl (by decide) rfl own5 (some ⟨V.heap.size, 0, none⟩) 1 1 [.int .i64 pf, .string pb] rfl rfl (fun h => by cases h) (fun a ha => by injection ha with ha; subst ha; rfl) (fun a ha j u hj => by injection ha with ha; subst ha; rw [Go.WideShapes.add_plain, Nat.zero_add]; exact m5.cell (by simpa using hj)) (fun u hu => by simp at hu; rcases hu with rfl | rfl <;> rfl) (by unfold maxLen; omega) (by omega) (L + 1) rfl ?_
              intro g6 cap6 w6 own6 gr6 at6
              have k6 : Kp [] V w6 := kp_gr k5 gr6 hg5
              have FN := hide (unhide FIN w6 k6 g6 cap6 own6)
              have s6 := unhide HS w6 k6
              have f6 := unhide FZ w6 k6
              refine hK _ _ (Or.inr s6) ?_
              clear hK K
              try simp only [Act.put, List.setIfInBounds_toArray, List.set_cons_zero, List.set_cons_succ]
              refine wpAnyL_one (i := 19) (o := { dst := some 50, op := Op.indexAddr 35 (Operand.tmp 34) (Operand.tmp 35), type := 0, pos := "ref.go:45", after := #[{ on := 3, ground := Ground.data }, { on := 4, ground := Ground.data }, { on := 0, ground := Ground.phase }, { on := 1, ground := Ground.phase }, { on := 2, ground := Ground.phase }, { on := 3, ground := Ground.phase }, { on := 4, ground := Ground.phase }, { on := 5, ground := Ground.phase }, { on := 6, ground := Ground.phase }, { on := 7, ground := Ground.phase }, { on := 8, ground := Ground.phase }, { on := 9, ground := Ground.phase }, { on := 10, ground := Ground.phase }, { on := 11, ground := Ground.phase }, { on := 12, ground := Ground.phase }, { on := 13, ground := Ground.phase }, { on := 14, ground := Ground.phase }, { on := 15, ground := Ground.phase }, { on := 16, ground := Ground.phase }, { on := 17, ground := Ground.phase }, { on := 18, ground := Ground.phase }], guard := none }) rfl (by kernel_rfl) (fun K hK => ?_)
              go_simp
              refine hK _ _ (Or.inr s6) ?_
              clear hK K
              try simp only [Act.put, List.setIfInBounds_toArray, List.set_cons_zero, List.set_cons_succ]
              refine wpAnyL_one (i := 20) (o := { dst := none, op := Op.store 77 (Operand.tmp 50) (Operand.tmp 49), type := 0, pos := "ref.go:45", after := #[{ on := 19, ground := Ground.data }, { on := 18, ground := Ground.data }, { on := 18, ground := Ground.chain }, { on := 0, ground := Ground.phase }, { on := 1, ground := Ground.phase }, { on := 2, ground := Ground.phase }, { on := 3, ground := Ground.phase }, { on := 4, ground := Ground.phase }, { on := 5, ground := Ground.phase }, { on := 6, ground := Ground.phase }, { on := 7, ground := Ground.phase }, { on := 8, ground := Ground.phase }, { on := 9, ground := Ground.phase }, { on := 10, ground := Ground.phase }, { on := 11, ground := Ground.phase }, { on := 12, ground := Ground.phase }, { on := 13, ground := Ground.phase }, { on := 14, ground := Ground.phase }, { on := 15, ground := Ground.phase }, { on := 16, ground := Ground.phase }, { on := 17, ground := Ground.phase }, { on := 18, ground := Ground.phase }], guard := none }) rfl (by kernel_rfl) (fun K hK => ?_)
              go_simp
              refine hK _ _ (Or.inl rfl) ?_
              clear hK K
              try simp only [Act.put, List.setIfInBounds_toArray, List.set_cons_zero, List.set_cons_succ]
              refine wpAnyL_done (by kernel_rfl) ?_ _
              go_wp2
              go_meet
              obtain ⟨vs', z1⟩ := unhide FN
              exact ⟨vs', hide z1⟩

          case rest =>
            obtain ⟨vs2, HR⟩ := hcut
            obtain ⟨V2, hV2⟩ : ∃ V2, V2 = wc.drew := ⟨_, rfl⟩
            have kV2 : Kp [] wc V2 := by rw [hV2]; exact Kp.drew wc
            have b0 : V2.cell? ⟨g, 1, none⟩ = some (.int .i64 (s.c 0)) := ((unhide HR).1.kp kV2).box.cell (ntC_at _ _ _ 0 (by decide))
            have fz := ((unhide HR).1.kp kV2).box.froz 1
            have hw : IntKind.i64.wrap (s.c 0 + 1) = s.c 0 + 1 := by
              have h1 := ok.lo 0
              have h2 := ok.hi 0
              rw [IntKind.wrap_i64]
              omega
            have FN : Hid (RnAt B (V2.setCell ⟨g, 1, none⟩ (.int .i64 (s.c 0 + 1))) g (put s (m : Int) (row s (m : Int) ++ [⟨pf, pb⟩]) 0 1) ∧ Ks B rnT w (V2.setCell ⟨g, 1, none⟩ (.int .i64 (s.c 0 + 1)))) := hide (by
              obtain ⟨a1, a2⟩ := (unhide HR).1.count kV2 0 (by decide) (s.c 0 + 1)
              have e : put s (m : Int) (row s (m : Int) ++ [⟨pf, pb⟩]) 0 1 = ⟨s.ws.set m ((row s (m : Int) ++ [⟨pf, pb⟩])), up s.c 0 (s.c 0 + 1)⟩ := by unfold put; rw [Int.toNat_natCast]
              rw [e]
              refine ⟨⟨q, vs2, a1, hB⟩, rn_ks hn hB (F := [q, g]) (((unhide HR).2.mono (by simp)).trans (a2.mono (G := [q, g]) (by simp)) (fun _ hx => Or.inl hx)) (fun k hk => ?_)⟩
              simp at hk
              rcases hk with rfl | rfl
              · exact Or.inr (Or.inl rfl)
              · exact Or.inl rfl)
            clear HR ok hn hB hm
            generalize s.c 0 = C at *
            go_upto_region 6 with fail
            refine wp_region_late (fun W => W.cell? ⟨g, 1, none⟩ = some (.int .i64 C)) 9 (by kernel_rfl) ?_
            rw [← hV2]
            clear hV2
            show wpAnyL _ _ _ _ _ _ 10 (Array.replicate 10 false) _ _
            refine wpAnyL_take3 (i := 0) (oi := { dst := some 51, op := Op.move (Operand.tmp 0), type := 27, pos := "ref.go:46", after := #[], guard := none }) (v := ?_) rfl (by kernel_rfl) (by kernel_rfl) (by kernel_rfl) (by kernel_rfl) (fun _ _ _ h => h) (Or.inl ⟨by rfl, ?_⟩) b0 ?_
            rotate_left 1
            · intro w0 hSw
              (try dsimp only at hSw)
              go_simp
              (try with_reducible rfl)
            try simp only [Act.put, List.setIfInBounds_toArray, List.set_cons_zero, List.set_cons_succ]
            refine wpAnyL_take3 (i := 1) (oi := { dst := some 52, op := Op.nilCheck (Operand.tmp 51), type := 0, pos := "ref.go:46", after := #[{ on := 0, ground := Ground.data }], guard := none }) (v := ?_) rfl (by kernel_rfl) (by kernel_rfl) (by kernel_rfl) (by kernel_rfl) (fun _ _ _ h => h) (Or.inl ⟨by rfl, ?_⟩) b0 ?_
            rotate_left 1
            · intro w0 hSw
              (try dsimp only at hSw)
              go_simp
              (try with_reducible rfl)
            try simp only [Act.put, List.setIfInBounds_toArray, List.set_cons_zero, List.set_cons_succ]
            refine wpAnyL_take3 (i := 2) (oi := { dst := some 53, op := Op.fieldAddr 37 (Operand.tmp 52) 1, type := 0, pos := "ref.go:46", after := #[{ on := 1, ground := Ground.data }], guard := none }) (v := ?_) rfl (by kernel_rfl) (by kernel_rfl) (by kernel_rfl) (by kernel_rfl) (fun _ _ _ h => h) (Or.inl ⟨by rfl, ?_⟩) b0 ?_
            rotate_left 1
            · intro w0 hSw
              (try dsimp only at hSw)
              go_simp
              (try with_reducible rfl)
            try simp only [Act.put, List.setIfInBounds_toArray, List.set_cons_zero, List.set_cons_succ]
            refine wpAnyL_take3 (i := 3) (oi := { dst := some 54, op := Op.indexAddr 33 (Operand.tmp 53) (Operand.const (Value.int IntKind.i64 0)), type := 0, pos := "ref.go:46", after := #[{ on := 2, ground := Ground.data }], guard := none }) (v := ?_) rfl (by kernel_rfl) (by kernel_rfl) (by kernel_rfl) (by kernel_rfl) (fun _ _ _ h => h) (Or.inl ⟨by rfl, ?_⟩) b0 ?_
            rotate_left 1
            · intro w0 hSw
              (try dsimp only at hSw)
              go_simp
              (try with_reducible rfl)
            try simp only [Act.put, List.setIfInBounds_toArray, List.set_cons_zero, List.set_cons_succ]
            refine wpAnyL_take3 (i := 4) (oi := { dst := some 55, op := Op.load 3 (Operand.tmp 54), type := 3, pos := "ref.go:46", after := #[{ on := 3, ground := Ground.data }], guard := none }) (v := ?_) rfl (by kernel_rfl) (by kernel_rfl) (by kernel_rfl) (by kernel_rfl) (fun _ _ _ h => h) (Or.inl ⟨by rfl, ?_⟩) b0 ?_
            rotate_left 1
            · intro w0 hSw
              (try dsimp only at hSw)
              go_simp
              (try with_reducible rfl)
            try simp only [Act.put, List.setIfInBounds_toArray, List.set_cons_zero, List.set_cons_succ]
            refine wpAnyL_take3 (i := 5) (oi := { dst := some 56, op := Op.binOp BinOp.add 3 (Operand.tmp 55) (Operand.const (Value.int IntKind.i64 1)) 3, type := 3, pos := "ref.go:46", after := #[{ on := 4, ground := Ground.data }], guard := none }) (v := ?_) rfl (by kernel_rfl) (by kernel_rfl) (by kernel_rfl) (by kernel_rfl) (fun _ _ _ h => h) (Or.inl ⟨by rfl, ?_⟩) b0 ?_
            rotate_left 1
            · intro w0 hSw
              (try dsimp only at hSw)
              go_simp
              (try with_reducible rfl)
            try simp only [Act.put, List.setIfInBounds_toArray, List.set_cons_zero, List.set_cons_succ]
            refine wpAnyL_one (i := 6) (o := { dst := some 57, op := Op.nilCheck (Operand.tmp 51), type := 0, pos := "ref.go:46", after := #[{ on := 0, ground := Ground.data }], guard := none }) rfl (by kernel_rfl) (fun K hK => ?_)
            go_simp
            refine hK _ _ (Or.inr b0) ?_
            clear hK K
            try simp only [Act.put, List.setIfInBounds_toArray, List.set_cons_zero, List.set_cons_succ]
            refine wpAnyL_one (i := 7) (o := { dst := some 58, op := Op.fieldAddr 37 (Operand.tmp 57) 1, type := 0, pos := "ref.go:46", after := #[{ on := 6, ground := Ground.data }], guard := none }) rfl (by kernel_rfl) (fun K hK => ?_)
            go_simp
            refine hK _ _ (Or.inr b0) ?_
            clear hK K
            try simp only [Act.put, List.setIfInBounds_toArray, List.set_cons_zero, List.set_cons_succ]
            refine wpAnyL_one (i := 8) (o := { dst := some 59, op := Op.indexAddr 33 (Operand.tmp 58) (Operand.const (Value.int IntKind.i64 0)), type := 0, pos := "ref.go:46", after := #[{ on := 7, ground := Ground.data }, { on := 0, ground := Ground.phase }, { on := 1, ground := Ground.phase }, { on := 2, ground := Ground.phase }, { on := 3, ground := Ground.phase }, { on := 4, ground := Ground.phase }, { on := 5, ground := Ground.phase }], guard := none }) rfl (by kernel_rfl) (fun K hK => ?_)
            go_simp
            refine hK _ _ (Or.inr b0) ?_
            clear hK K
            try simp only [Act.put, List.setIfInBounds_toArray, List.set_cons_zero, List.set_cons_succ]
            refine wpAnyL_one (i := 9) (o := { dst := none, op := Op.store 3 (Operand.tmp 59) (Operand.tmp 56), type := 0, pos := "ref.go:46", after := #[{ on := 8, ground := Ground.data }, { on := 5, ground := Ground.data }, { on := 0, ground := Ground.phase }, { on := 1, ground := Ground.phase }, { on := 2, ground := Ground.phase }, { on := 3, ground := Ground.phase }, { on := 4, ground := Ground.phase }, { on := 5, ground := Ground.phase }], guard := none }) rfl (by kernel_rfl) (fun K hK => ?_)
            go_simp
            refine hK _ _ (Or.inl rfl) ?_
            clear hK K
            try simp only [Act.put, List.setIfInBounds_toArray, List.set_cons_zero, List.set_cons_succ]
            refine wpAnyL_done (by kernel_rfl) ?_ _
            go_wp2
            go_ret
            exact ⟨rfl, unhide FN⟩
end Go.Proofs.Ytledoopfffhigaa
