/-
  The document's Put: where all goes well.
-/
import Derived.Test.YtnikkjbjidhhlaaRsH
import Derived.Test.YtnikkjbjidhhlaaLate
namespace Go.Proofs.Ytnikkjbjidhhlaa
open Go.RowKit

theorem ev_at {W : World} {b : Nat} {cs : Array Value} {t : TypeId} (h : CBox b cs t W) : ∀ a, some (⟨b, 0, none⟩ : Addr) = some a → ∀ (j : Nat) (u : Value), cs.toList[j]? = some u → W.cell? (a.add j) = some u := fun a ha j u hj => by
  injection ha with ha
  subst ha
  rw [Go.WideShapes.add_plain, Nat.zero_add]
  exact h.cell (by simpa using hj)
theorem CBox.gr {b g2 : Nat} {cs : Array Value} {t : TypeId} {W w5 : World} (h : CBox b cs t W) (hg : W.grownBy w5 (some g2)) (hne : b ≠ g2) : CBox b cs t w5 := h.kp (Kp.of hg) (by simpa using hne)
theorem EvRow.emp (w : World) : EvRow (w.alloc (.cells #[] 45)) (.slice (some ⟨w.heap.size, 0, none⟩) 0 0) [] :=
  ⟨rfl, Or.inr ⟨w.heap.size, 0, #[], rfl, Nat.zero_le _, CBox.new w _ _, Nat.le_refl _, by unfold maxLen; omega, rfl, rfl⟩⟩
set_option maxHeartbeats 40000000 in
set_option maxRecDepth 100000 in
theorem refPut_ok (g q : Nat) (vs : List Value) (ps : List (List Ev)) (e : Ev) (w : World) (h : RsV w g q vs ps) (hok : e.ok) (hm : e.may = true) (hi : puP ps e < ps.length) (hl : ps[puP ps e].length < 4096) :
    Calls Try.prog 17 #[.pointer (some ⟨g, 0, none⟩), .agg e.c] w fun r w' => r = .returned (.tuple #[.int .i64 (puP ps e : Int), .int .i64 (ps[puP ps e].length : Int), .int .i64 0]) ∧ ∃ vs', RsV w' g q vs' (soAdd ps (puP ps e) e) ∧ Kp [q] w w' ∧ ∀ k ∈ soF g q vs', k ∈ soF g q vs ∨ w.heap.size ≤ k := by
  have MY := hide (fun W => refMayE_any e W hok)
  rw [hm] at MY
  have hn1 := h.pos
  have hn2 := h.few
  have PT := hide (fun W => refPart_any e.k ps.length W hn1 hn2 hok.1)
  have hpp : partOf ps.length e.k = puP ps e := rfl
  rw [hpp] at PT
  have HPOST := hide (fun (W : World) (hk : Kp [] w W) (g7 cap7 : Nat) hr hg => rput_of (e := e) h hk hi hl (g7 := g7) (cap7 := cap7) hr hg)
  obtain ⟨ad, cap, hx1, hv0, hx2⟩ := h.at (puP ps e) hi
  have HRD : Hid (∀ W, Kp [] w W → W.cell? ⟨g, 0, none⟩ = some (.slice (some ⟨q, 0, none⟩) ps.length ps.length) ∧ W.cell? ⟨q, puP ps e, none⟩ = some (.slice ad ps[puP ps e].length cap)) := hide (fun W hk => ⟨(h.kp hk (by simp)).cells, hk.cell hx1 (by simp)⟩)
  have HFZ : Hid (∀ W : World, Kp [] w W → W.frozen? ⟨q, puP ps e, none⟩ = false) := hide (fun W hk => (h.row.kp hk (by simp)).froz _)
  have HSR := hide (fun (W : World) (hk : Kp [] w W) => evs_src (hx2.kp hk (by simp)))
  have HCELL : Hid (∀ (W : World) (v : Value) (vs' : List Value), RsV W g q (vs'.set (puP ps e) v) (soAdd ps (puP ps e) e) → vs'.length = vs.length → W.cell? ⟨g, 0, none⟩ = some (.slice (some ⟨q, 0, none⟩) ps.length ps.length) ∧ W.cell? ⟨q, puP ps e, none⟩ = some v) := hide (fun W v vs' hh hlen => by
    have hc := hh.cells
    have hs : (soAdd ps (puP ps e) e).length = ps.length := by unfold soAdd; simp
    rw [hs] at hc
    refine ⟨hc, hh.row.cell ?_⟩
    have : puP ps e < vs'.length := by rw [hlen, h.len]; exact hi
    simp [this])
  have hevl : (evC ps[puP ps e]).length = ps[puP ps e].length * 7 := evC_length _
  have HVL := hide hevl
  have hone : ∀ u ∈ evC ps[puP ps e], u.oneCell' = true := fun u hu => by
    unfold evC at hu
    obtain ⟨y, _, hu⟩ := List.mem_flatMap.1 hu
    exact ev_one y u hu
  have HONE := hide hone
  have HON := hide (ev_one e)
  have hpi : (puP ps e : Int) < (ps.length : Int) := by omega
  clear hx1 hv0 hx2 h hm hpp hok hevl hone
  generalize puP ps e = p at *
  generalize soAdd ps p e = PS2 at *
  generalize ps[p].length = m at *
  generalize evC ps[p] = EV at *
  clear hi
  generalize ps.length = n at *
  have hbx := CBox.new w e.c 45
  have hk0 := Kp.alloc w (.cells e.c 45)
  have hk1 := Kp.alloc (w.alloc (.cells e.c 45)) (.cells e.c 45)
  have hbx2 := hbx.kp hk1 (by simp)
  have hk2 := hk0.trans hk1 (by simp)
  clear hbx hk0 hk1
  obtain ⟨ek, et, n0, n1, n2, n3, ex⟩ := e
  unfold Ev.c at *
  dsimp only at *
  go_enter Try.func17, Try.ntmps17
  go_wp2_with fail
  refine (unhide MY _).mono ?_
  rintro r w1 ⟨rfl, rfl⟩
  generalize (w.alloc (.cells #[.string ek, .string et, .int .i64 n0, .int .i64 n1, .int .i64 n2, .int .i64 n3, .string ex] 45)).alloc (.cells #[.string ek, .string et, .int .i64 n0, .int .i64 n1, .int .i64 n2, .int .i64 n3, .string ex] 45) = W2 at *
  have HK2 := hide hk2
  have HB2 := hide hbx2
  have cS : W2.drew.cell? ⟨w.heap.size, 0, none⟩ = some (.string ek) ∧ W2.drew.cell? ⟨g, 0, none⟩ = some (.slice (some ⟨q, 0, none⟩) n n) := ⟨hbx2.cell rfl, (unhide HRD _ hk2).1⟩
  clear hk2 hbx2 MY
  go_wp2
  go_region_held3 (fun W => W.cell? ⟨w.heap.size, 0, none⟩ = some (.string ek) ∧ W.cell? ⟨g, 0, none⟩ = some (.slice (some ⟨q, 0, none⟩) n n))
    (first | with_reducible exact cS)
    (first
      | (go_at_call 26; refine (unhide PT _).mono ?_; rintro r w3 ⟨rfl, rfl⟩))
  clear PT cS
  have K3 := hide ((unhide HK2).trans (Kp.drew W2) (by simp))
  have B3 := hide ((unhide HB2).kp (Kp.drew W2) (by simp))
  clear HK2 HB2
  generalize W2.drew = W3 at *
  have r3 := unhide HRD W3 (unhide K3)
  have RDX := hide (fun W (hk : Kp [] W3 W) => unhide HRD W ((unhide K3).trans hk (by simp)))
  have BXX := hide (fun W (hk : Kp [] W3 W) => (unhide B3).kp hk (by simp))
  have kE1 : Kp [] W3 (W3.alloc (.cells #[] 45)).drew := (Kp.alloc _ _).trans (Kp.drew _) (by simp)
  have kM1 : Kp [] W3 (W3.alloc (.cells #[.string ek, .string et, .int .i64 n0, .int .i64 n1, .int .i64 n2, .int .i64 n3, .string ex] 45)).drew := (Kp.alloc _ _).trans (Kp.drew _) (by simp)
  have kE2 : Kp [] W3 ((W3.alloc (.cells #[] 45)).alloc (.cells #[.string ek, .string et, .int .i64 n0, .int .i64 n1, .int .i64 n2, .int .i64 n3, .string ex] 45)).drew := ((Kp.alloc _ _).trans (Kp.alloc _ _) (by simp)).trans (Kp.drew _) (by simp)
  have kE3 : Kp [] W3 ((W3.alloc (.cells #[.string ek, .string et, .int .i64 n0, .int .i64 n1, .int .i64 n2, .int .i64 n3, .string ex] 45)).alloc (.cells #[] 45)).drew := ((Kp.alloc _ _).trans (Kp.alloc _ _) (by simp)).trans (Kp.drew _) (by simp)
  have oE1 : (W3.alloc (.cells #[] 45)).drew.ownsRow 0 45 7 (.slice (some ⟨W3.heap.size, 0, none⟩) 0 0) 0 (evC []) := EvRow.emp W3
  have oE2 : ((W3.alloc (.cells #[] 45)).alloc (.cells #[.string ek, .string et, .int .i64 n0, .int .i64 n1, .int .i64 n2, .int .i64 n3, .string ex] 45)).drew.ownsRow 0 45 7 (.slice (some ⟨W3.heap.size, 0, none⟩) 0 0) 0 (evC []) := (EvRow.emp W3).kp ((Kp.alloc _ _).trans (Kp.drew _) (by simp)) (by simp)
  have oE3 : ((W3.alloc (.cells #[.string ek, .string et, .int .i64 n0, .int .i64 n1, .int .i64 n2, .int .i64 n3, .string ex] 45)).alloc (.cells #[] 45)).drew.ownsRow 0 45 7 (.slice (some ⟨W3.heap.size + 1, 0, none⟩) 0 0) 0 (evC []) := by
    have h := EvRow.emp (W3.alloc (.cells #[.string ek, .string et, .int .i64 n0, .int .i64 n1, .int .i64 n2, .int .i64 n3, .string ex] 45))
    rw [show (W3.alloc (.cells #[.string ek, .string et, .int .i64 n0, .int .i64 n1, .int .i64 n2, .int .i64 n3, .string ex] 45)).heap.size = W3.heap.size + 1 by simp] at h
    exact h
  have mE2 : CBox (W3.heap.size + 1) #[.string ek, .string et, .int .i64 n0, .int .i64 n1, .int .i64 n2, .int .i64 n3, .string ex] 45 ((W3.alloc (.cells #[] 45)).alloc (.cells #[.string ek, .string et, .int .i64 n0, .int .i64 n1, .int .i64 n2, .int .i64 n3, .string ex] 45)).drew := by
    have h := CBox.new (W3.alloc (.cells #[] 45)) #[.string ek, .string et, .int .i64 n0, .int .i64 n1, .int .i64 n2, .int .i64 n3, .string ex] 45
    rw [show (W3.alloc (.cells #[] 45)).heap.size = W3.heap.size + 1 by simp] at h
    exact h
  have mE3 : CBox W3.heap.size #[.string ek, .string et, .int .i64 n0, .int .i64 n1, .int .i64 n2, .int .i64 n3, .string ex] 45 ((W3.alloc (.cells #[.string ek, .string et, .int .i64 n0, .int .i64 n1, .int .i64 n2, .int .i64 n3, .string ex] 45)).alloc (.cells #[] 45)).drew := (CBox.new W3 _ _).kp ((Kp.alloc _ _).trans (Kp.drew _) (by simp)) (by simp)
  have RW : Hid (∀ W, Kp [] W3 W → (W.cell? ⟨w.heap.size, 0, none⟩ = some (.string ek) ∧ W.cell? ⟨w.heap.size, 1, none⟩ = some (.string et) ∧ W.cell? ⟨w.heap.size, 2, none⟩ = some (.int .i64 n0) ∧ W.cell? ⟨w.heap.size, 3, none⟩ = some (.int .i64 n1) ∧ W.cell? ⟨w.heap.size, 4, none⟩ = some (.int .i64 n2) ∧ W.cell? ⟨w.heap.size, 5, none⟩ = some (.int .i64 n3) ∧ W.cell? ⟨w.heap.size, 6, none⟩ = some (.string ex)) ∧ W.cell? ⟨g, 0, none⟩ = some (.slice (some ⟨q, 0, none⟩) n n) ∧ W.cell? ⟨q, p, none⟩ = some (.slice ad m cap)) := hide (fun W hk => by
    have b := unhide BXX W hk
    have r := unhide RDX W hk
    exact ⟨⟨b.cell rfl, b.cell rfl, b.cell rfl, b.cell rfl, b.cell rfl, b.cell rfl, b.cell rfl⟩, r⟩)
  have a0 := unhide RW W3.drew (Kp.drew _)
  have a1 := unhide RW (W3.alloc (.cells #[] 45)).drew kE1
  have a2 := unhide RW (W3.alloc (.cells #[.string ek, .string et, .int .i64 n0, .int .i64 n1, .int .i64 n2, .int .i64 n3, .string ex] 45)).drew kM1
  have a3 := unhide RW ((W3.alloc (.cells #[] 45)).alloc (.cells #[.string ek, .string et, .int .i64 n0, .int .i64 n1, .int .i64 n2, .int .i64 n3, .string ex] 45)).drew kE2
  have a4 := unhide RW ((W3.alloc (.cells #[.string ek, .string et, .int .i64 n0, .int .i64 n1, .int .i64 n2, .int .i64 n3, .string ex] 45)).alloc (.cells #[] 45)).drew kE3
  have SRC := hide (fun W (hk : Kp [] W3 W) => unhide HSR W ((unhide K3).trans hk (by simp)))
  have hsz : w.heap.size ≤ W3.heap.size := (unhide K3).size
  have FIN : Hid (∀ (W : World) (hk : Kp [] W3 W) (g7 cap7 : Nat), W.ownsRow 0 45 7 (.slice (some ⟨g7, 0, none⟩) (m + 1) cap7) (m + 1) (evC [] ++ EV ++ #[.string ek, .string et, .int .i64 n0, .int .i64 n1, .int .i64 n2, .int .i64 n3, .string ex].toList) → W3.heap.size ≤ g7 → _) := hide (fun W hk g7 cap7 hr hg => unhide HPOST W ((unhide K3).trans hk (by simp)) g7 cap7 hr (by omega))
  have FZ : Hid (∀ W : World, Kp [] W3 W → W.frozen? ⟨q, p, none⟩ = false) := hide (fun W hk => unhide HFZ W ((unhide K3).trans hk (by simp)))
  obtain ⟨i0, hi0, hz0, hz1, hz2⟩ := info_parts info_event
  clear HRD HSR HPOST RDX BXX B3 HFZ
  go_upto_region 6 with fail
  go_cut [] (fun wc => ∃ (vs' : List Value) (g7 cap7 : Nat), Hid (RsV wc g q vs' PS2 ∧ Kp [q] w wc ∧ ∀ k ∈ soF g q vs', k ∈ soF g q vs ∨ w.heap.size ≤ k) ∧ wc.cell? ⟨g, 0, none⟩ = some (.slice (some ⟨q, 0, none⟩) n n) ∧ wc.cell? ⟨q, p, none⟩ = some (.slice (some ⟨g7, 0, none⟩) (m + 1) cap7))
  case first =>
    refine wp_region_late (fun W => (W.cell? ⟨w.heap.size, 0, none⟩ = some (.string ek) ∧ W.cell? ⟨w.heap.size, 1, none⟩ = some (.string et) ∧ W.cell? ⟨w.heap.size, 2, none⟩ = some (.int .i64 n0) ∧ W.cell? ⟨w.heap.size, 3, none⟩ = some (.int .i64 n1) ∧ W.cell? ⟨w.heap.size, 4, none⟩ = some (.int .i64 n2) ∧ W.cell? ⟨w.heap.size, 5, none⟩ = some (.int .i64 n3) ∧ W.cell? ⟨w.heap.size, 6, none⟩ = some (.string ex)) ∧ W.cell? ⟨g, 0, none⟩ = some (.slice (some ⟨q, 0, none⟩) n n) ∧ W.cell? ⟨q, p, none⟩ = some (.slice ad m cap)) 18 (by kernel_rfl) ?_
    show wpAnyL _ _ _ _ _ _ 19 (Array.replicate 19 false) _ _
    refine wpAnyL_take (i := 0) (oi := { dst := some 28, op := Op.move (Operand.tmp 0), type := 40, pos := "ref.go:46", after := #[], guard := none }) (v := ?_) rfl (by kernel_rfl) (by kernel_rfl) (by kernel_rfl) (by kernel_rfl) (fun _ _ _ h => h) (Or.inl ⟨by rfl, ?_⟩) a0 ?_
    rotate_left 1
    · intro w0 hSw
      (try dsimp only at hSw)
      go_simp
      (try with_reducible rfl)
    try simp only [Act.put, List.setIfInBounds_toArray, List.set_cons_zero, List.set_cons_succ]
    refine wpAnyL_take (i := 1) (oi := { dst := some 29, op := Op.nilCheck (Operand.tmp 28), type := 0, pos := "ref.go:46", after := #[{ on := 0, ground := Ground.data }], guard := none }) (v := ?_) rfl (by kernel_rfl) (by kernel_rfl) (by kernel_rfl) (by kernel_rfl) (fun _ _ _ h => h) (Or.inl ⟨by rfl, ?_⟩) a0 ?_
    rotate_left 1
    · intro w0 hSw
      (try dsimp only at hSw)
      go_simp
      (try with_reducible rfl)
    try simp only [Act.put, List.setIfInBounds_toArray, List.set_cons_zero, List.set_cons_succ]
    refine wpAnyL_take (i := 2) (oi := { dst := some 30, op := Op.fieldAddr 80 (Operand.tmp 29) 0, type := 0, pos := "ref.go:46", after := #[{ on := 1, ground := Ground.data }], guard := none }) (v := ?_) rfl (by kernel_rfl) (by kernel_rfl) (by kernel_rfl) (by kernel_rfl) (fun _ _ _ h => h) (Or.inl ⟨by rfl, ?_⟩) a0 ?_
    rotate_left 1
    · intro w0 hSw
      (try dsimp only at hSw)
      go_simp
      (try with_reducible rfl)
    try simp only [Act.put, List.setIfInBounds_toArray, List.set_cons_zero, List.set_cons_succ]
    refine wpAnyL_take (i := 3) (oi := { dst := some 31, op := Op.load 63 (Operand.tmp 30), type := 63, pos := "ref.go:46", after := #[{ on := 2, ground := Ground.data }], guard := none }) (v := ?_) rfl (by kernel_rfl) (by kernel_rfl) (by kernel_rfl) (by kernel_rfl) (fun _ _ _ h => h) (Or.inl ⟨by rfl, ?_⟩) a0 ?_
    rotate_left 1
    · intro w0 hSw
      (try dsimp only at hSw)
      go_simp
      (try with_reducible rfl)
    try simp only [Act.put, List.setIfInBounds_toArray, List.set_cons_zero, List.set_cons_succ]
    refine wpAnyL_take (i := 4) (oi := { dst := some 32, op := Op.move (Operand.tmp 7), type := 3, pos := "ref.go:46", after := #[], guard := none }) (v := ?_) rfl (by kernel_rfl) (by kernel_rfl) (by kernel_rfl) (by kernel_rfl) (fun _ _ _ h => h) (Or.inl ⟨by rfl, ?_⟩) a0 ?_
    rotate_left 1
    · intro w0 hSw
      (try dsimp only at hSw)
      go_simp
      (try with_reducible rfl)
    try simp only [Act.put, List.setIfInBounds_toArray, List.set_cons_zero, List.set_cons_succ]
    refine wpAnyL_take (i := 6) (oi := { dst := some 34, op := Op.move (Operand.tmp 0), type := 40, pos := "ref.go:46", after := #[], guard := none }) (v := ?_) rfl (by kernel_rfl) (by kernel_rfl) (by kernel_rfl) (by kernel_rfl) (fun _ _ _ h => h) (Or.inl ⟨by rfl, ?_⟩) a0 ?_
    rotate_left 1
    · intro w0 hSw
      (try dsimp only at hSw)
      go_simp
      (try with_reducible rfl)
    try simp only [Act.put, List.setIfInBounds_toArray, List.set_cons_zero, List.set_cons_succ]
    refine wpAnyL_take (i := 7) (oi := { dst := some 35, op := Op.nilCheck (Operand.tmp 34), type := 0, pos := "ref.go:46", after := #[{ on := 6, ground := Ground.data }], guard := none }) (v := ?_) rfl (by kernel_rfl) (by kernel_rfl) (by kernel_rfl) (by kernel_rfl) (fun _ _ _ h => h) (Or.inl ⟨by rfl, ?_⟩) a0 ?_
    rotate_left 1
    · intro w0 hSw
      (try dsimp only at hSw)
      go_simp
      (try with_reducible rfl)
    try simp only [Act.put, List.setIfInBounds_toArray, List.set_cons_zero, List.set_cons_succ]
    refine wpAnyL_take (i := 8) (oi := { dst := some 36, op := Op.fieldAddr 80 (Operand.tmp 35) 0, type := 0, pos := "ref.go:46", after := #[{ on := 7, ground := Ground.data }], guard := none }) (v := ?_) rfl (by kernel_rfl) (by kernel_rfl) (by kernel_rfl) (by kernel_rfl) (fun _ _ _ h => h) (Or.inl ⟨by rfl, ?_⟩) a0 ?_
    rotate_left 1
    · intro w0 hSw
      (try dsimp only at hSw)
      go_simp
      (try with_reducible rfl)
    try simp only [Act.put, List.setIfInBounds_toArray, List.set_cons_zero, List.set_cons_succ]
    refine wpAnyL_take (i := 9) (oi := { dst := some 37, op := Op.load 63 (Operand.tmp 36), type := 63, pos := "ref.go:46", after := #[{ on := 8, ground := Ground.data }], guard := none }) (v := ?_) rfl (by kernel_rfl) (by kernel_rfl) (by kernel_rfl) (by kernel_rfl) (fun _ _ _ h => h) (Or.inl ⟨by rfl, ?_⟩) a0 ?_
    rotate_left 1
    · intro w0 hSw
      (try dsimp only at hSw)
      go_simp
      (try with_reducible rfl)
    try simp only [Act.put, List.setIfInBounds_toArray, List.set_cons_zero, List.set_cons_succ]
    refine wpAnyL_take (i := 10) (oi := { dst := some 38, op := Op.move (Operand.tmp 7), type := 3, pos := "ref.go:46", after := #[], guard := none }) (v := ?_) rfl (by kernel_rfl) (by kernel_rfl) (by kernel_rfl) (by kernel_rfl) (fun _ _ _ h => h) (Or.inl ⟨by rfl, ?_⟩) a0 ?_
    rotate_left 1
    · intro w0 hSw
      (try dsimp only at hSw)
      go_simp
      (try with_reducible rfl)
    try simp only [Act.put, List.setIfInBounds_toArray, List.set_cons_zero, List.set_cons_succ]
    refine wpAnyL_take (i := 11) (oi := { dst := some 39, op := Op.indexAddr 63 (Operand.tmp 37) (Operand.tmp 38), type := 0, pos := "ref.go:46", after := #[{ on := 9, ground := Ground.data }, { on := 10, ground := Ground.data }], guard := none }) (v := ?_) rfl (by kernel_rfl) (by kernel_rfl) (by kernel_rfl) (by kernel_rfl) (fun _ _ _ h => h) (Or.inl ⟨by rfl, ?_⟩) a0 ?_
    rotate_left 1
    · intro w0 hSw
      (try dsimp only at hSw)
      go_simp
      (try with_reducible rfl)
    try simp only [Act.put, List.setIfInBounds_toArray, List.set_cons_zero, List.set_cons_succ]
    refine wpAnyL_take (i := 12) (oi := { dst := some 40, op := Op.load 51 (Operand.tmp 39), type := 51, pos := "ref.go:46", after := #[{ on := 11, ground := Ground.data }], guard := none }) (v := ?_) rfl (by kernel_rfl) (by kernel_rfl) (by kernel_rfl) (by kernel_rfl) (fun _ _ _ h => h) (Or.inl ⟨by rfl, ?_⟩) a0 ?_
    rotate_left 1
    · intro w0 hSw
      (try dsimp only at hSw)
      go_simp
      (try with_reducible rfl)
    try simp only [Act.put, List.setIfInBounds_toArray, List.set_cons_zero, List.set_cons_succ]
    refine wpAnyL_take (i := 14) (oi := { dst := some 42, op := Op.load 45 (Operand.tmp 3), type := 45, pos := "ref.go:46", after := #[], guard := none }) (v := ?_) rfl (by kernel_rfl) (by kernel_rfl) (by kernel_rfl) (by kernel_rfl) (fun _ _ _ h => h) (Or.inl ⟨by rfl, ?_⟩) a0 ?_
    rotate_left 1
    · intro w0 hSw
      (try dsimp only at hSw)
      go_simp
      (try with_reducible rfl)
    try simp only [Act.put, List.setIfInBounds_toArray, List.set_cons_zero, List.set_cons_succ]
    refine wpAnyL_two (i := 5) (j := 15) (o := { dst := some 33, op := Op.buildSlice 51 0 #[], type := 51, pos := "ref.go:46", after := #[], guard := none }) (o' := { dst := some 43, op := Op.buildSlice 51 1 #[(0, Operand.tmp 42)], type := 51, pos := "ref.go:46", after := #[{ on := 14, ground := Ground.data }], guard := none }) rfl rfl (by kernel_rfl) (fun K hK => ?_) (fun K hK => ?_)
    · go_simp
      refine hK _ _ (Or.inr a1) ?_
      refine wpAnyL_two (i := 13) (j := 15) (o := { dst := some 41, op := Op.call { callee := Callee.builtin Builtin.append, args := #[Operand.tmp 33, Operand.tmp 40], argTypes := #[51, 51] }, type := 51, pos := "ref.go:46", after := #[{ on := 5, ground := Ground.data }, { on := 12, ground := Ground.data }], guard := none }) (o' := { dst := some 43, op := Op.buildSlice 51 1 #[(0, Operand.tmp 42)], type := 51, pos := "ref.go:46", after := #[{ on := 14, ground := Ground.data }], guard := none }) rfl rfl (by kernel_rfl) (fun K hK => ?_) (fun K hK => ?_)
      · refine step_app_any rfl (.tmp 33) (.tmp 40) 51 rfl 45 i0 (.agg #[.string ⟨#[]⟩, .string ⟨#[]⟩, .int .i64 0, .int .i64 0, .int .i64 0, .int .i64 0, .string ⟨#[]⟩]) 7 80 Try.underlying51 hi0 hz0 hz1 hz2 rfl (by decide) rfl oE1 _ _ _ EV rfl (unhide HVL) (unhide SRC _ kE1).2.1 (unhide SRC _ kE1).1 (unhide SRC _ kE1).2.2 (unhide HONE) (by unfold maxLen; omega) (by omega) m (Nat.zero_add _) ?_
        intro g5 cap5 w5 own5 gr5 at5
        have k5 : Kp [] W3 w5 := kp_gr kE1 gr5 (by omega)
        have hg5 : W3.heap.size ≤ g5 := by rcases at5 with rfl | rfl <;> (try simp) <;> omega
        have a5 := unhide RW w5 k5
        have a5m := unhide RW (w5.alloc (.cells #[.string ek, .string et, .int .i64 n0, .int .i64 n1, .int .i64 n2, .int .i64 n3, .string ex] 45)) (k5.trans (Kp.alloc _ _) (by simp))
        refine hK _ _ (Or.inr a5) ?_
        try simp only [Act.put, List.setIfInBounds_toArray, List.set_cons_zero, List.set_cons_succ]
        refine wpAnyL_one (i := 15) (o := { dst := some 43, op := Op.buildSlice 51 1 #[(0, Operand.tmp 42)], type := 51, pos := "ref.go:46", after := #[{ on := 14, ground := Ground.data }], guard := none }) rfl (by kernel_rfl) (fun K hK => ?_)
        go_simp
        refine hK _ _ (Or.inr a5m) ?_
        refine wpAnyL_one (i := 16) (o := { dst := some 44, op := Op.call { callee := Callee.builtin Builtin.append, args := #[Operand.tmp 41, Operand.tmp 43], argTypes := #[51, 51] }, type := 51, pos := "ref.go:46", after := #[{ on := 13, ground := Ground.data }, { on := 15, ground := Ground.data }, { on := 13, ground := Ground.chain }], guard := none }) rfl (by kernel_rfl) (fun K hK => ?_)
        refine step_app_any rfl (.tmp 41) (.tmp 43) 51 rfl 45 i0 (.agg #[.string ⟨#[]⟩, .string ⟨#[]⟩, .int .i64 0, .int .i64 0, .int .i64 0, .int .i64 0, .string ⟨#[]⟩]) 7 80 Try.underlying51 hi0 hz0 hz1 hz2 rfl (by decide) rfl (own5.alloc _) _ _ _ #[.string ek, .string et, .int .i64 n0, .int .i64 n1, .int .i64 n2, .int .i64 n3, .string ex].toList rfl rfl (fun h => by cases h) (fun a ha => by injection ha with ha; subst ha; rfl) (ev_at (CBox.new w5 _ _)) (unhide HON) (by unfold maxLen; omega) (by omega) (m + 1) rfl ?_
        intro g6 cap6 w6 own6 gr6 at6
        have k6 : Kp [] W3 w6 := kp_gr (k5.trans (Kp.alloc _ _) (by simp)) gr6 hg5
        have hg6 : W3.heap.size ≤ g6 := by have := k5.size; rcases at6 with rfl | rfl <;> (try simp) <;> omega
        have a6 := unhide RW w6 k6
        have f6 := unhide FZ w6 k6
        have FN := hide (unhide FIN w6 k6 g6 cap6 own6 hg6)
        refine hK _ _ (Or.inr a6) ?_
        try simp only [Act.put, List.setIfInBounds_toArray, List.set_cons_zero, List.set_cons_succ]
        refine wpAnyL_one (i := 17) (o := { dst := some 45, op := Op.indexAddr 63 (Operand.tmp 31) (Operand.tmp 32), type := 0, pos := "ref.go:46", after := #[{ on := 3, ground := Ground.data }, { on := 4, ground := Ground.data }, { on := 0, ground := Ground.phase }, { on := 1, ground := Ground.phase }, { on := 2, ground := Ground.phase }, { on := 3, ground := Ground.phase }, { on := 4, ground := Ground.phase }, { on := 5, ground := Ground.phase }, { on := 6, ground := Ground.phase }, { on := 7, ground := Ground.phase }, { on := 8, ground := Ground.phase }, { on := 9, ground := Ground.phase }, { on := 10, ground := Ground.phase }, { on := 11, ground := Ground.phase }, { on := 12, ground := Ground.phase }, { on := 13, ground := Ground.phase }, { on := 14, ground := Ground.phase }, { on := 15, ground := Ground.phase }, { on := 16, ground := Ground.phase }], guard := none }) rfl (by kernel_rfl) (fun K hK => ?_)
        go_simp
        refine hK _ _ (Or.inr a6) ?_
        refine wpAnyL_one (i := 18) (o := { dst := none, op := Op.store 51 (Operand.tmp 45) (Operand.tmp 44), type := 0, pos := "ref.go:46", after := #[{ on := 17, ground := Ground.data }, { on := 16, ground := Ground.data }, { on := 16, ground := Ground.chain }, { on := 0, ground := Ground.phase }, { on := 1, ground := Ground.phase }, { on := 2, ground := Ground.phase }, { on := 3, ground := Ground.phase }, { on := 4, ground := Ground.phase }, { on := 5, ground := Ground.phase }, { on := 6, ground := Ground.phase }, { on := 7, ground := Ground.phase }, { on := 8, ground := Ground.phase }, { on := 9, ground := Ground.phase }, { on := 10, ground := Ground.phase }, { on := 11, ground := Ground.phase }, { on := 12, ground := Ground.phase }, { on := 13, ground := Ground.phase }, { on := 14, ground := Ground.phase }, { on := 15, ground := Ground.phase }, { on := 16, ground := Ground.phase }], guard := none }) rfl (by kernel_rfl) (fun K hK => ?_)
        go_simp
        refine hK _ _ (Or.inl rfl) ?_
        refine wpAnyL_done (by kernel_rfl) ?_ _
        go_wp2
        go_meet
        obtain ⟨z1, z2⟩ := unhide HCELL _ _ _ (unhide FN).1 rfl
        exact ⟨_, g6, cap6, hide (unhide FN), z1, z2⟩
      · go_simp
        refine hK _ _ (Or.inr a3) ?_
        refine wpAnyL_one (i := 13) (o := { dst := some 41, op := Op.call { callee := Callee.builtin Builtin.append, args := #[Operand.tmp 33, Operand.tmp 40], argTypes := #[51, 51] }, type := 51, pos := "ref.go:46", after := #[{ on := 5, ground := Ground.data }, { on := 12, ground := Ground.data }], guard := none }) rfl (by kernel_rfl) (fun K hK => ?_)
        refine step_app_any rfl (.tmp 33) (.tmp 40) 51 rfl 45 i0 (.agg #[.string ⟨#[]⟩, .string ⟨#[]⟩, .int .i64 0, .int .i64 0, .int .i64 0, .int .i64 0, .string ⟨#[]⟩]) 7 80 Try.underlying51 hi0 hz0 hz1 hz2 rfl (by decide) rfl oE2 _ _ _ EV rfl (unhide HVL) (unhide SRC _ kE1).2.1 (unhide SRC _ kE1).1 (unhide SRC _ kE2).2.2 (unhide HONE) (by unfold maxLen; omega) (by omega) m (Nat.zero_add _) ?_
        intro g5 cap5 w5 own5 gr5 at5
        have k5 : Kp [] W3 w5 := kp_gr kE2 gr5 (by omega)
        have hg5 : W3.heap.size ≤ g5 := by rcases at5 with rfl | rfl <;> (try simp) <;> omega
        have a5 := unhide RW w5 k5
        have a5m := unhide RW (w5.alloc (.cells #[.string ek, .string et, .int .i64 n0, .int .i64 n1, .int .i64 n2, .int .i64 n3, .string ex] 45)) (k5.trans (Kp.alloc _ _) (by simp))
        have m5 := mE2.gr gr5 (by omega)
        refine hK _ _ (Or.inr a5) ?_
        try simp only [Act.put, List.setIfInBounds_toArray, List.set_cons_zero, List.set_cons_succ]
        refine wpAnyL_one (i := 16) (o := { dst := some 44, op := Op.call { callee := Callee.builtin Builtin.append, args := #[Operand.tmp 41, Operand.tmp 43], argTypes := #[51, 51] }, type := 51, pos := "ref.go:46", after := #[{ on := 13, ground := Ground.data }, { on := 15, ground := Ground.data }, { on := 13, ground := Ground.chain }], guard := none }) rfl (by kernel_rfl) (fun K hK => ?_)
        refine step_app_any rfl (.tmp 41) (.tmp 43) 51 rfl 45 i0 (.agg #[.string ⟨#[]⟩, .string ⟨#[]⟩, .int .i64 0, .int .i64 0, .int .i64 0, .int .i64 0, .string ⟨#[]⟩]) 7 80 Try.underlying51 hi0 hz0 hz1 hz2 rfl (by decide) rfl own5 _ _ _ #[.string ek, .string et, .int .i64 n0, .int .i64 n1, .int .i64 n2, .int .i64 n3, .string ex].toList rfl rfl (fun h => by cases h) (fun a ha => by injection ha with ha; subst ha; rfl) (ev_at m5) (unhide HON) (by unfold maxLen; omega) (by omega) (m + 1) rfl ?_
        intro g6 cap6 w6 own6 gr6 at6
        have k6 : Kp [] W3 w6 := kp_gr k5 gr6 hg5
        have hg6 : W3.heap.size ≤ g6 := by have := k5.size; rcases at6 with rfl | rfl <;> (try simp) <;> omega
        have a6 := unhide RW w6 k6
        have f6 := unhide FZ w6 k6
        have FN := hide (unhide FIN w6 k6 g6 cap6 own6 hg6)
        refine hK _ _ (Or.inr a6) ?_
        try simp only [Act.put, List.setIfInBounds_toArray, List.set_cons_zero, List.set_cons_succ]
        refine wpAnyL_one (i := 17) (o := { dst := some 45, op := Op.indexAddr 63 (Operand.tmp 31) (Operand.tmp 32), type := 0, pos := "ref.go:46", after := #[{ on := 3, ground := Ground.data }, { on := 4, ground := Ground.data }, { on := 0, ground := Ground.phase }, { on := 1, ground := Ground.phase }, { on := 2, ground := Ground.phase }, { on := 3, ground := Ground.phase }, { on := 4, ground := Ground.phase }, { on := 5, ground := Ground.phase }, { on := 6, ground := Ground.phase }, { on := 7, ground := Ground.phase }, { on := 8, ground := Ground.phase }, { on := 9, ground := Ground.phase }, { on := 10, ground := Ground.phase }, { on := 11, ground := Ground.phase }, { on := 12, ground := Ground.phase }, { on := 13, ground := Ground.phase }, { on := 14, ground := Ground.phase }, { on := 15, ground := Ground.phase }, { on := 16, ground := Ground.phase }], guard := none }) rfl (by kernel_rfl) (fun K hK => ?_)
        go_simp
        refine hK _ _ (Or.inr a6) ?_
        refine wpAnyL_one (i := 18) (o := { dst := none, op := Op.store 51 (Operand.tmp 45) (Operand.tmp 44), type := 0, pos := "ref.go:46", after := #[{ on := 17, ground := Ground.data }, { on := 16, ground := Ground.data }, { on := 16, ground := Ground.chain }, { on := 0, ground := Ground.phase }, { on := 1, ground := Ground.phase }, { on := 2, ground := Ground.phase }, { on := 3, ground := Ground.phase }, { on := 4, ground := Ground.phase }, { on := 5, ground := Ground.phase }, { on := 6, ground := Ground.phase }, { on := 7, ground := Ground.phase }, { on := 8, ground := Ground.phase }, { on := 9, ground := Ground.phase }, { on := 10, ground := Ground.phase }, { on := 11, ground := Ground.phase }, { on := 12, ground := Ground.phase }, { on := 13, ground := Ground.phase }, { on := 14, ground := Ground.phase }, { on := 15, ground := Ground.phase }, { on := 16, ground := Ground.phase }], guard := none }) rfl (by kernel_rfl) (fun K hK => ?_)
        go_simp
        refine hK _ _ (Or.inl rfl) ?_
        refine wpAnyL_done (by kernel_rfl) ?_ _
        go_wp2
        go_meet
        obtain ⟨z1, z2⟩ := unhide HCELL _ _ _ (unhide FN).1 rfl
        exact ⟨_, g6, cap6, hide (unhide FN), z1, z2⟩
    · go_simp
      refine hK _ _ (Or.inr a2) ?_
      refine wpAnyL_one (i := 5) (o := { dst := some 33, op := Op.buildSlice 51 0 #[], type := 51, pos := "ref.go:46", after := #[], guard := none }) rfl (by kernel_rfl) (fun K hK => ?_)
      go_simp
      refine hK _ _ (Or.inr a4) ?_
      refine wpAnyL_one (i := 13) (o := { dst := some 41, op := Op.call { callee := Callee.builtin Builtin.append, args := #[Operand.tmp 33, Operand.tmp 40], argTypes := #[51, 51] }, type := 51, pos := "ref.go:46", after := #[{ on := 5, ground := Ground.data }, { on := 12, ground := Ground.data }], guard := none }) rfl (by kernel_rfl) (fun K hK => ?_)
      refine step_app_any rfl (.tmp 33) (.tmp 40) 51 rfl 45 i0 (.agg #[.string ⟨#[]⟩, .string ⟨#[]⟩, .int .i64 0, .int .i64 0, .int .i64 0, .int .i64 0, .string ⟨#[]⟩]) 7 80 Try.underlying51 hi0 hz0 hz1 hz2 rfl (by decide) rfl oE3 _ _ _ EV rfl (unhide HVL) (unhide SRC _ kE1).2.1 (unhide SRC _ kE1).1 (unhide SRC _ kE3).2.2 (unhide HONE) (by unfold maxLen; omega) (by omega) m (Nat.zero_add _) ?_
      intro g5 cap5 w5 own5 gr5 at5
      have k5 : Kp [] W3 w5 := kp_gr kE3 gr5 (by omega)
      have hg5 : W3.heap.size ≤ g5 := by rcases at5 with rfl | rfl <;> (try simp) <;> omega
      have a5 := unhide RW w5 k5
      have a5m := unhide RW (w5.alloc (.cells #[.string ek, .string et, .int .i64 n0, .int .i64 n1, .int .i64 n2, .int .i64 n3, .string ex] 45)) (k5.trans (Kp.alloc _ _) (by simp))
      have m5 := mE3.gr gr5 (by omega)
      refine hK _ _ (Or.inr a5) ?_
      try simp only [Act.put, List.setIfInBounds_toArray, List.set_cons_zero, List.set_cons_succ]
      refine wpAnyL_one (i := 16) (o := { dst := some 44, op := Op.call { callee := Callee.builtin Builtin.append, args := #[Operand.tmp 41, Operand.tmp 43], argTypes := #[51, 51] }, type := 51, pos := "ref.go:46", after := #[{ on := 13, ground := Ground.data }, { on := 15, ground := Ground.data }, { on := 13, ground := Ground.chain }], guard := none }) rfl (by kernel_rfl) (fun K hK => ?_)
      refine step_app_any rfl (.tmp 41) (.tmp 43) 51 rfl 45 i0 (.agg #[.string ⟨#[]⟩, .string ⟨#[]⟩, .int .i64 0, .int .i64 0, .int .i64 0, .int .i64 0, .string ⟨#[]⟩]) 7 80 Try.underlying51 hi0 hz0 hz1 hz2 rfl (by decide) rfl own5 _ _ _ #[.string ek, .string et, .int .i64 n0, .int .i64 n1, .int .i64 n2, .int .i64 n3, .string ex].toList rfl rfl (fun h => by cases h) (fun a ha => by injection ha with ha; subst ha; rfl) (ev_at m5) (unhide HON) (by unfold maxLen; omega) (by omega) (m + 1) rfl ?_
      intro g6 cap6 w6 own6 gr6 at6
      have k6 : Kp [] W3 w6 := kp_gr k5 gr6 hg5
      have hg6 : W3.heap.size ≤ g6 := by have := k5.size; rcases at6 with rfl | rfl <;> (try simp) <;> omega
      have a6 := unhide RW w6 k6
      have f6 := unhide FZ w6 k6
      have FN := hide (unhide FIN w6 k6 g6 cap6 own6 hg6)
      refine hK _ _ (Or.inr a6) ?_
      try simp only [Act.put, List.setIfInBounds_toArray, List.set_cons_zero, List.set_cons_succ]
      refine wpAnyL_one (i := 17) (o := { dst := some 45, op := Op.indexAddr 63 (Operand.tmp 31) (Operand.tmp 32), type := 0, pos := "ref.go:46", after := #[{ on := 3, ground := Ground.data }, { on := 4, ground := Ground.data }, { on := 0, ground := Ground.phase }, { on := 1, ground := Ground.phase }, { on := 2, ground := Ground.phase }, { on := 3, ground := Ground.phase }, { on := 4, ground := Ground.phase }, { on := 5, ground := Ground.phase }, { on := 6, ground := Ground.phase }, { on := 7, ground := Ground.phase }, { on := 8, ground := Ground.phase }, { on := 9, ground := Ground.phase }, { on := 10, ground := Ground.phase }, { on := 11, ground := Ground.phase }, { on := 12, ground := Ground.phase }, { on := 13, ground := Ground.phase }, { on := 14, ground := Ground.phase }, { on := 15, ground := Ground.phase }, { on := 16, ground := Ground.phase }], guard := none }) rfl (by kernel_rfl) (fun K hK => ?_)
      go_simp
      refine hK _ _ (Or.inr a6) ?_
      refine wpAnyL_one (i := 18) (o := { dst := none, op := Op.store 51 (Operand.tmp 45) (Operand.tmp 44), type := 0, pos := "ref.go:46", after := #[{ on := 17, ground := Ground.data }, { on := 16, ground := Ground.data }, { on := 16, ground := Ground.chain }, { on := 0, ground := Ground.phase }, { on := 1, ground := Ground.phase }, { on := 2, ground := Ground.phase }, { on := 3, ground := Ground.phase }, { on := 4, ground := Ground.phase }, { on := 5, ground := Ground.phase }, { on := 6, ground := Ground.phase }, { on := 7, ground := Ground.phase }, { on := 8, ground := Ground.phase }, { on := 9, ground := Ground.phase }, { on := 10, ground := Ground.phase }, { on := 11, ground := Ground.phase }, { on := 12, ground := Ground.phase }, { on := 13, ground := Ground.phase }, { on := 14, ground := Ground.phase }, { on := 15, ground := Ground.phase }, { on := 16, ground := Ground.phase }], guard := none }) rfl (by kernel_rfl) (fun K hK => ?_)
      go_simp
      refine hK _ _ (Or.inl rfl) ?_
      refine wpAnyL_done (by kernel_rfl) ?_ _
      go_wp2
      go_meet
      obtain ⟨z1, z2⟩ := unhide HCELL _ _ _ (unhide FN).1 rfl
      exact ⟨_, g6, cap6, hide (unhide FN), z1, z2⟩
  case rest =>
    obtain ⟨vs', g7, cap7, HR, z1, z2⟩ := hcut
    clear a0 a1 a2 a3 a4 oE1 oE2 oE3 mE2 mE3 kE1 kE2 kE3 kM1 r3
    have hm1 : ((m : Int) + 1) - 1 = (m : Int) := by omega
    go_wp2
    go_quiet (fail)
    go_wp2
    go_ret3
    obtain ⟨h1, h2, h3⟩ := unhide HR
    exact ⟨rfl, _, h1.kp (Kp.drewQ _ _) (by simp), h2.trans (Kp.drewQ _ _) (by simp), h3⟩
end Go.Proofs.Ytnikkjbjidhhlaa
