/-
  The document's disk: a change, where all goes well.
-/
import Derived.Test.YtboffmbaaokbnaaGreatDoorG17
import Derived.Deep.DeepCutAuto
namespace Go.Proofs.YtboffmbaaokbnaaGreatDoor
open Go.RowKit

theorem box_at {W : World} {b : Nat} {cs : Array Value} {t : TypeId} (h : CBox b cs t W) : ∀ a, some (⟨b, 0, none⟩ : Addr) = some a → ∀ (j : Nat) (u : Value), cs.toList[j]? = some u → W.cell? (a.add j) = some u := fun a ha j u hj => by
  injection ha with ha
  subst ha
  rw [Go.WideShapes.add_plain, Nat.zero_add]
  exact h.cell (by simpa using hj)
theorem CBox.gr {b g2 : Nat} {cs : Array Value} {t : TypeId} {W w5 : World} (h : CBox b cs t W) (hg : W.grownBy w5 (some g2)) (hne : b ≠ g2) : CBox b cs t w5 := h.kp (Kp.of hg) (by simpa using hne)
theorem chs_src {w : World} {ad : Option Addr} {l : List Chg} {m cap : Nat} (h : ChRow w (.slice ad m cap) l) : (∀ a, ad = some a → a.spot = none) ∧ (ad = none → m = 0 ∧ cap = 0) ∧ ∀ a, ad = some a → ∀ j u, (l.flatMap fun c => (chA c).toList)[j]? = some u → w.cell? (a.add j) = some u := by
  obtain ⟨h0, ⟨e, h1⟩ | ⟨g', cap', cur, e, hg, hh, h2, h3, h4, h5⟩⟩ := id h
  · injection e with e1 e2 e3
    subst e1 e3
    exact ⟨(fun a ha => by cases ha), (fun _ => ⟨by omega, rfl⟩), (fun a ha => by cases ha)⟩
  · injection e with e1 e2 e3
    subst e1
    refine ⟨fun a ha => (by injection ha with ha; subst ha; rfl), (fun ha => by cases ha), fun a ha j u hu => ?_⟩
    injection ha with ha
    subst ha
    have hj : j < l.length * 5 := by
      have := (List.getElem?_eq_some_iff.1 hu).1
      rw [h0] at this
      exact this
    rw [← h5, List.getElem?_take_of_lt hj] at hu
    simp at hu
    rw [Go.WideShapes.add_plain, Nat.zero_add]
    simp [World.cell?, hh, hu]
set_option maxHeartbeats 8000000 in
set_option maxRecDepth 100000 in
theorem rdo_ok (c : Chg) (p : Nat) (vs vw vn : Value) (d : Dk) (w : World) (h : RfAt w p d vs vw vn) (hl : ¬ 1024 ≤ d.wait.length) (hr : d.readyB = true) (h0 : -1 ≤ d.left) (h1 : d.left ≤ 9223372036854775807) (fs' : Fs)
    (MD : ∀ W, FlRow W vn d.now → Calls Tryz.prog 59 #[vn, .agg (chA c)] W fun e w' => ∃ v', e = .returned v' ∧ FlRow w' v' fs' ∧ Kp [] W w' ∧ ∀ k, v'.ownBlock = some k → W.heap.size ≤ k) :
    Calls Tryz.prog 66 #[.pointer (some ⟨p, 0, none⟩), .agg (chA c)] w fun e w' => e = .returned (.int .i64 0) ∧ ∃ vw' vn', CBox p (rfC vs vw' vn' d.ready.left d.ready.down) 50 w' ∧ ChRow w' vw' (d.wait ++ [c]) ∧ FlRow w' vn' fs' ∧ Kp [p] w w' ∧ (∀ k, vw'.ownBlock = some k → w.heap.size ≤ k) ∧ ∀ k, vn'.ownBlock = some k → w.heap.size ≤ k := by
  obtain ⟨a, x, n, m, s, e⟩ := chA_form c
  have HON := hide (chA_one c)
  rw [e] at HON
  obtain ⟨ad, cap, hvw⟩ : ∃ ad cap, vw = .slice ad d.wait.length cap := by
    obtain ⟨rfl, h0⟩ | ⟨g, cap, rfl, hcp, hm⟩ := h.wait.shape
    · exact ⟨_, _, by rw [h0]; rfl⟩
    · exact ⟨_, _, rfl⟩
  subst hvw
  obtain ⟨an, nn, cn, hvn⟩ : ∃ an nn cn, vn = .slice an nn cn := by
    obtain ⟨rfl, h0⟩ | ⟨g, cap, rfl, hcp, hm⟩ := h.now.shape
    · exact ⟨_, _, _, rfl⟩
    · exact ⟨_, _, _, rfl⟩
  subst hvn
  have hka := Kp.alloc w (.cells #[.int .i64 a, .string n, .string m, .int .i64 x, .string s] 96)
  have bx := h.box.kp hka (by simp)
  have cb := CBox.new w #[.int .i64 a, .string n, .string m, .int .i64 x, .string s] 96
  have hpl : p < w.heap.size := (Array.getElem?_eq_some_iff.1 h.box).1
  have c1 : (w.alloc (.cells #[.int .i64 a, .string n, .string m, .int .i64 x, .string s] 96)).cell? ⟨p, 1, none⟩ = some (.slice ad d.wait.length cap) := bx.cell rfl
  have RD := rready_any p vs (.slice ad d.wait.length cap) (.slice an nn cn) d _ bx h0 h1
  rw [hr] at RD
  have RD := hide RD
  have HK := hide (hka.mono (F := []) (G := [p]) (by simp))
  have hnp : ∀ k, (Value.slice ad d.wait.length cap).ownBlock = some k → k ∉ [p] := fun k hk hm => by
    rw [List.mem_singleton] at hm
    subst hm
    obtain ⟨_, ⟨e2, _⟩ | ⟨g, cp, cur, e2, _, hh, _⟩⟩ := h.wait
    · injection e2 with e2; subst e2; cases hk
    · injection e2 with e2
      subst e2
      simp [Value.ownBlock] at hk
      subst hk
      have hx : w.heap[g]? = _ := h.box
      rw [hh] at hx
      injection hx with e; injection e with _ e; exact absurd e (by decide)
  have hnn : ∀ k, (Value.slice an nn cn).ownBlock = some k → k ∉ [p] := fun k hk hm => by
    rw [List.mem_singleton] at hm
    subst hm
    obtain ⟨_, ⟨e2, _⟩ | ⟨g, cp, cur, e2, _, hh, _⟩⟩ := h.now
    · injection e2 with e2; subst e2; cases hk
    · injection e2 with e2
      subst e2
      simp [Value.ownBlock] at hk
      subst hk
      have hx : w.heap[g]? = _ := h.box
      rw [hh] at hx
      injection hx with e; injection e with _ e; exact absurd e (by decide)
  have HSC := hide (fun W (hk : Kp [p] w W) => chs_src (h.wait.kp hk hnp))
  have HNW := hide (fun W (hk : Kp [p] w W) => h.now.kp hk hnn)
  have HCB := hide (fun W (hk : Kp [p] (w.alloc (.cells #[.int .i64 a, .string n, .string m, .int .i64 x, .string s] 96)) W) => cb.kp hk (by simp; omega))
  have HSN : Hid (∀ (W : World) (v : Value), W.ownsRow 0 96 5 v (d.wait.length + 1) ((([] : List Chg).flatMap fun c => (chA c).toList) ++ (d.wait.flatMap fun c => (chA c).toList) ++ #[Value.int .i64 a, .string n, .string m, .int .i64 x, .string s].toList) → ChRow W v (d.wait ++ [c])) := hide (fun W v hh => ChRow.snoc (by rw [e]; exact hh))
  have HCL := hide (chCells_len d.wait)
  have HCO := hide (chCells_one d.wait)
  have HMD := hide MD
  rw [e] at HMD ⊢
  have hli : ¬ ((1024 : Int) ≤ (d.wait.length : Int)) := by omega
  have hwl : d.wait.length ≤ 1024 := by omega
  clear h e hka bx cb MD hnp hnn
  generalize (d.wait.flatMap fun c => (chA c).toList) = EV at *
  generalize d.wait ++ [c] = WT2 at *
  generalize d.now = NOW at *
  generalize hN : d.wait.length = N at *
  generalize d.ready = d2 at *
  go_enter Tryz.func66, Tryz.ntmps66
  go_wp2_with fail
  refine (unhide RD).mono ?_
  rintro r w1 ⟨rfl, b1, k1⟩
  have K1 := hide ((unhide HK).trans k1 (fun _ hx => Or.inl hx))
  have B1 := hide b1
  have CB1 := hide (unhide HCB w1 k1)
  clear b1 k1 RD HK HCB c1
  have RW : Hid (∀ W, Kp [] w1 W → (W.cell? ⟨w.heap.size, 0, none⟩ = some (.int .i64 a) ∧ W.cell? ⟨w.heap.size, 1, none⟩ = some (.string n) ∧ W.cell? ⟨w.heap.size, 2, none⟩ = some (.string m) ∧ W.cell? ⟨w.heap.size, 3, none⟩ = some (.int .i64 x) ∧ W.cell? ⟨w.heap.size, 4, none⟩ = some (.string s)) ∧ W.cell? ⟨p, 1, none⟩ = some (.slice ad N cap)) := hide (fun W hk => by
    have b := (unhide CB1).kp hk (by simp)
    have b2 := (unhide B1).kp hk (by simp)
    exact ⟨⟨b.cell rfl, b.cell rfl, b.cell rfl, b.cell rfl, b.cell rfl⟩, b2.cell rfl⟩)
  have SRC := hide (fun W (hk : Kp [] w1 W) => unhide HSC W ((unhide K1).trans hk (by simp)))
  have kE1 : Kp [] w1 (w1.alloc (.cells #[] 96)).drew := (Kp.alloc _ _).trans (Kp.drew _) (by simp)
  have kM1 : Kp [] w1 (w1.alloc (.cells #[.int .i64 a, .string n, .string m, .int .i64 x, .string s] 96)).drew := (Kp.alloc _ _).trans (Kp.drew _) (by simp)
  have kE2 : Kp [] w1 ((w1.alloc (.cells #[] 96)).alloc (.cells #[.int .i64 a, .string n, .string m, .int .i64 x, .string s] 96)).drew := ((Kp.alloc _ _).trans (Kp.alloc _ _) (by simp)).trans (Kp.drew _) (by simp)
  have kE3 : Kp [] w1 ((w1.alloc (.cells #[.int .i64 a, .string n, .string m, .int .i64 x, .string s] 96)).alloc (.cells #[] 96)).drew := ((Kp.alloc _ _).trans (Kp.alloc _ _) (by simp)).trans (Kp.drew _) (by simp)
  have oE1 : (w1.alloc (.cells #[] 96)).drew.ownsRow 0 96 5 (.slice (some ⟨w1.heap.size, 0, none⟩) 0 0) 0 (([] : List Chg).flatMap fun c => (chA c).toList) := ChRow.empty w1
  have oE2 : ((w1.alloc (.cells #[] 96)).alloc (.cells #[.int .i64 a, .string n, .string m, .int .i64 x, .string s] 96)).drew.ownsRow 0 96 5 (.slice (some ⟨w1.heap.size, 0, none⟩) 0 0) 0 (([] : List Chg).flatMap fun c => (chA c).toList) := (ChRow.empty w1).kp ((Kp.alloc _ _).trans (Kp.drew _) (by simp)) (by simp)
  have oE3 : ((w1.alloc (.cells #[.int .i64 a, .string n, .string m, .int .i64 x, .string s] 96)).alloc (.cells #[] 96)).drew.ownsRow 0 96 5 (.slice (some ⟨w1.heap.size + 1, 0, none⟩) 0 0) 0 (([] : List Chg).flatMap fun c => (chA c).toList) := by
    have h := ChRow.empty (w1.alloc (.cells #[.int .i64 a, .string n, .string m, .int .i64 x, .string s] 96))
    rw [show (w1.alloc (.cells #[.int .i64 a, .string n, .string m, .int .i64 x, .string s] 96)).heap.size = w1.heap.size + 1 by simp] at h
    exact h
  have mE2 : CBox (w1.heap.size + 1) #[.int .i64 a, .string n, .string m, .int .i64 x, .string s] 96 ((w1.alloc (.cells #[] 96)).alloc (.cells #[.int .i64 a, .string n, .string m, .int .i64 x, .string s] 96)).drew := by
    have h := CBox.new (w1.alloc (.cells #[] 96)) #[.int .i64 a, .string n, .string m, .int .i64 x, .string s] 96
    rw [show (w1.alloc (.cells #[] 96)).heap.size = w1.heap.size + 1 by simp] at h
    exact h
  have mE3 : CBox w1.heap.size #[.int .i64 a, .string n, .string m, .int .i64 x, .string s] 96 ((w1.alloc (.cells #[.int .i64 a, .string n, .string m, .int .i64 x, .string s] 96)).alloc (.cells #[] 96)).drew := (CBox.new w1 _ _).kp ((Kp.alloc _ _).trans (Kp.drew _) (by simp)) (by simp)
  have a0 := unhide RW w1.drew (Kp.drew _)
  have a1 := unhide RW (w1.alloc (.cells #[] 96)).drew kE1
  have a2 := unhide RW (w1.alloc (.cells #[.int .i64 a, .string n, .string m, .int .i64 x, .string s] 96)).drew kM1
  have a3 := unhide RW ((w1.alloc (.cells #[] 96)).alloc (.cells #[.int .i64 a, .string n, .string m, .int .i64 x, .string s] 96)).drew kE2
  have a4 := unhide RW ((w1.alloc (.cells #[.int .i64 a, .string n, .string m, .int .i64 x, .string s] 96)).alloc (.cells #[] 96)).drew kE3
  have hsz : w.heap.size ≤ w1.heap.size := (unhide K1).size
  have FZ : Hid (∀ W : World, Kp [] w1 W → W.frozen? ⟨p, 1, none⟩ = false) := hide (fun W hk => ((unhide B1).kp hk (by simp)).froz _)
  have FIN : Hid (∀ (W : World), Kp [] w1 W → ∀ (g7 cap7 : Nat), W.ownsRow 0 96 5 (.slice (some ⟨g7, 0, none⟩) (N + 1) cap7) (N + 1) ((([] : List Chg).flatMap fun c => (chA c).toList) ++ EV ++ #[Value.int .i64 a, .string n, .string m, .int .i64 x, .string s].toList) → w1.heap.size ≤ g7 →
      CBox p (rfC vs (.slice (some ⟨g7, 0, none⟩) (N + 1) cap7) (.slice an nn cn) d2.left d2.down) 50 (W.setCell ⟨p, 1, none⟩ (.slice (some ⟨g7, 0, none⟩) (N + 1) cap7)) ∧ ChRow (W.setCell ⟨p, 1, none⟩ (.slice (some ⟨g7, 0, none⟩) (N + 1) cap7)) (.slice (some ⟨g7, 0, none⟩) (N + 1) cap7) WT2 ∧ Kp [p] w (W.setCell ⟨p, 1, none⟩ (.slice (some ⟨g7, 0, none⟩) (N + 1) cap7)) ∧ CBox w.heap.size #[.int .i64 a, .string n, .string m, .int .i64 x, .string s] 96 (W.setCell ⟨p, 1, none⟩ (.slice (some ⟨g7, 0, none⟩) (N + 1) cap7)) ∧ w.heap.size ≤ g7) := hide (fun W hk g7 cap7 hr hg => by
    have ks := Kp.set W p 1 (.slice (some ⟨g7, 0, none⟩) (N + 1) cap7)
    have bb := ((unhide B1).kp hk (by simp)).set 1 (.slice (some ⟨g7, 0, none⟩) (N + 1) cap7)
    refine ⟨bb, (unhide HSN W _ hr).kp ks (fun k hk1 => by simp [Value.ownBlock] at hk1; subst hk1; simp; omega), ((unhide K1).trans hk (by simp)).trans ks (fun x hx => Or.inl hx), ((unhide CB1).kp hk (by simp)).kp ks (by simp; omega), by omega⟩)
  obtain ⟨i0, hi0, hz0, hz1, hz2⟩ := info_parts info_chgR
  clear HSC HSN
  go_upto_region 5 with fail
  go_cut [] (fun wc => ∃ (g7 cap7 : Nat), Hid (CBox p (rfC vs (.slice (some ⟨g7, 0, none⟩) (N + 1) cap7) (.slice an nn cn) d2.left d2.down) 50 wc ∧ ChRow wc (.slice (some ⟨g7, 0, none⟩) (N + 1) cap7) WT2 ∧ Kp [p] w wc ∧ CBox w.heap.size #[.int .i64 a, .string n, .string m, .int .i64 x, .string s] 96 wc ∧ w.heap.size ≤ g7))
  case first =>
    refine wp_region_late (fun W => (W.cell? ⟨w.heap.size, 0, none⟩ = some (.int .i64 a) ∧ W.cell? ⟨w.heap.size, 1, none⟩ = some (.string n) ∧ W.cell? ⟨w.heap.size, 2, none⟩ = some (.string m) ∧ W.cell? ⟨w.heap.size, 3, none⟩ = some (.int .i64 x) ∧ W.cell? ⟨w.heap.size, 4, none⟩ = some (.string s)) ∧ W.cell? ⟨p, 1, none⟩ = some (.slice ad N cap)) 12 (by kernel_rfl) ?_
    show wpAnyL _ _ _ _ _ _ 13 (Array.replicate 13 false) _ _
    refine wpAnyL_take (i := 0) (oi := { dst := some 14, op := Op.move (Operand.tmp 0), type := 30, pos := "ref.go:130", after := #[], guard := none }) (v := ?_) rfl (by kernel_rfl) (by kernel_rfl) (by kernel_rfl) (by kernel_rfl) (fun _ _ _ h => h) (Or.inl ⟨by rfl, ?_⟩) a0 ?_
    rotate_left 1
    · intro w0 hSw
      (try dsimp only at hSw)
      go_simp
      (try with_reducible rfl)
    try simp only [Act.put, List.setIfInBounds_toArray, List.set_cons_zero, List.set_cons_succ]
    refine wpAnyL_take (i := 2) (oi := { dst := some 16, op := Op.move (Operand.tmp 0), type := 30, pos := "ref.go:130", after := #[], guard := none }) (v := ?_) rfl (by kernel_rfl) (by kernel_rfl) (by kernel_rfl) (by kernel_rfl) (fun _ _ _ h => h) (Or.inl ⟨by rfl, ?_⟩) a0 ?_
    rotate_left 1
    · intro w0 hSw
      (try dsimp only at hSw)
      go_simp
      (try with_reducible rfl)
    try simp only [Act.put, List.setIfInBounds_toArray, List.set_cons_zero, List.set_cons_succ]
    refine wpAnyL_take (i := 3) (oi := { dst := some 17, op := Op.nilCheck (Operand.tmp 16), type := 0, pos := "ref.go:130", after := #[{ on := 2, ground := Ground.data }], guard := none }) (v := ?_) rfl (by kernel_rfl) (by kernel_rfl) (by kernel_rfl) (by kernel_rfl) (fun _ _ _ h => h) (Or.inl ⟨by rfl, ?_⟩) a0 ?_
    rotate_left 1
    · intro w0 hSw
      (try dsimp only at hSw)
      go_simp
      (try with_reducible rfl)
    try simp only [Act.put, List.setIfInBounds_toArray, List.set_cons_zero, List.set_cons_succ]
    refine wpAnyL_take (i := 4) (oi := { dst := some 18, op := Op.fieldAddr 50 (Operand.tmp 17) 1, type := 0, pos := "ref.go:130", after := #[{ on := 3, ground := Ground.data }], guard := none }) (v := ?_) rfl (by kernel_rfl) (by kernel_rfl) (by kernel_rfl) (by kernel_rfl) (fun _ _ _ h => h) (Or.inl ⟨by rfl, ?_⟩) a0 ?_
    rotate_left 1
    · intro w0 hSw
      (try dsimp only at hSw)
      go_simp
      (try with_reducible rfl)
    try simp only [Act.put, List.setIfInBounds_toArray, List.set_cons_zero, List.set_cons_succ]
    refine wpAnyL_take (i := 5) (oi := { dst := some 19, op := Op.load 48 (Operand.tmp 18), type := 48, pos := "ref.go:130", after := #[{ on := 4, ground := Ground.data }], guard := none }) (v := ?_) rfl (by kernel_rfl) (by kernel_rfl) (by kernel_rfl) (by kernel_rfl) (fun _ _ _ h => h) (Or.inl ⟨by rfl, ?_⟩) a0 ?_
    rotate_left 1
    · intro w0 hSw
      (try dsimp only at hSw)
      go_simp
      (try with_reducible rfl)
    try simp only [Act.put, List.setIfInBounds_toArray, List.set_cons_zero, List.set_cons_succ]
    refine wpAnyL_take (i := 7) (oi := { dst := some 21, op := Op.load 96 (Operand.tmp 3), type := 96, pos := "ref.go:130", after := #[], guard := none }) (v := ?_) rfl (by kernel_rfl) (by kernel_rfl) (by kernel_rfl) (by kernel_rfl) (fun _ _ _ h => h) (Or.inl ⟨by rfl, ?_⟩) a0 ?_
    rotate_left 1
    · intro w0 hSw
      (try dsimp only at hSw)
      go_simp
      (try with_reducible rfl)
    try simp only [Act.put, List.setIfInBounds_toArray, List.set_cons_zero, List.set_cons_succ]
    refine wpAnyL_two (i := 1) (j := 8) (o := { dst := some 15, op := Op.buildSlice 48 0 #[], type := 48, pos := "ref.go:130", after := #[], guard := none }) (o' := { dst := some 22, op := Op.buildSlice 48 1 #[(0, Operand.tmp 21)], type := 48, pos := "ref.go:130", after := #[{ on := 7, ground := Ground.data }], guard := none }) rfl rfl (by kernel_rfl) (fun K hK => ?_) (fun K hK => ?_)
    · go_simp
      refine hK _ _ (Or.inr a1) ?_
      refine wpAnyL_two (i := 6) (j := 8) (o := { dst := some 20, op := Op.call { callee := Callee.builtin Builtin.append, args := #[Operand.tmp 15, Operand.tmp 19], argTypes := #[48, 48] }, type := 48, pos := "ref.go:130", after := #[{ on := 1, ground := Ground.data }, { on := 5, ground := Ground.data }], guard := none }) (o' := { dst := some 22, op := Op.buildSlice 48 1 #[(0, Operand.tmp 21)], type := 48, pos := "ref.go:130", after := #[{ on := 7, ground := Ground.data }], guard := none }) rfl rfl (by kernel_rfl) (fun K hK => ?_) (fun K hK => ?_)
      · refine step_app_any rfl (.tmp 15) (.tmp 19) 48 rfl 96 i0 (.agg #[.int .i64 0, .string ⟨#[]⟩, .string ⟨#[]⟩, .int .i64 0, .string ⟨#[]⟩]) 5 64 Tryz.underlying48 hi0 hz0 hz1 hz2 rfl (by decide) rfl oE1 _ _ _ EV rfl (unhide HCL) (unhide SRC _ kE1).2.1 (unhide SRC _ kE1).1 (unhide SRC _ kE1).2.2 (unhide HCO) (by unfold maxLen; omega) (by omega) N (Nat.zero_add _) ?_
        intro g5 cap5 w5 own5 gr5 at5
        have k5 : Kp [] w1 w5 := kp_gr kE1 gr5 (by omega)
        have hg5 : w1.heap.size ≤ g5 := by rcases at5 with rfl | rfl <;> (try simp) <;> omega
        have a5 := unhide RW w5 k5
        have a5m := unhide RW (w5.alloc (.cells #[.int .i64 a, .string n, .string m, .int .i64 x, .string s] 96)) (k5.trans (Kp.alloc _ _) (by simp))
        refine hK _ _ (Or.inr a5) ?_
        try simp only [Act.put, List.setIfInBounds_toArray, List.set_cons_zero, List.set_cons_succ]
        refine wpAnyL_one (i := 8) (o := { dst := some 22, op := Op.buildSlice 48 1 #[(0, Operand.tmp 21)], type := 48, pos := "ref.go:130", after := #[{ on := 7, ground := Ground.data }], guard := none }) rfl (by kernel_rfl) (fun K hK => ?_)
        go_simp
        refine hK _ _ (Or.inr a5m) ?_
        refine wpAnyL_one (i := 9) (o := { dst := some 23, op := Op.call { callee := Callee.builtin Builtin.append, args := #[Operand.tmp 20, Operand.tmp 22], argTypes := #[48, 48] }, type := 48, pos := "ref.go:130", after := #[{ on := 6, ground := Ground.data }, { on := 8, ground := Ground.data }, { on := 6, ground := Ground.chain }], guard := none }) rfl (by kernel_rfl) (fun K hK => ?_)
        refine step_app_any rfl (.tmp 20) (.tmp 22) 48 rfl 96 i0 (.agg #[.int .i64 0, .string ⟨#[]⟩, .string ⟨#[]⟩, .int .i64 0, .string ⟨#[]⟩]) 5 64 Tryz.underlying48 hi0 hz0 hz1 hz2 rfl (by decide) rfl (own5.alloc _) _ _ _ #[Value.int .i64 a, .string n, .string m, .int .i64 x, .string s].toList rfl rfl (fun h => by cases h) (fun a ha => by injection ha with ha; subst ha; rfl) (box_at (CBox.new w5 _ _)) (unhide HON) (by unfold maxLen; omega) (by omega) (N + 1) rfl ?_
        intro g6 cap6 w6 own6 gr6 at6
        have k6 : Kp [] w1 w6 := kp_gr (k5.trans (Kp.alloc _ _) (by simp)) gr6 hg5
        have hg6 : w1.heap.size ≤ g6 := by have := k5.size; rcases at6 with rfl | rfl <;> (try simp) <;> omega
        have a6 := unhide RW w6 k6
        have f6 := unhide FZ w6 k6
        have FN := hide (unhide FIN w6 k6 g6 cap6 own6 hg6)
        refine hK _ _ (Or.inr a6) ?_
        try simp only [Act.put, List.setIfInBounds_toArray, List.set_cons_zero, List.set_cons_succ]
        refine wpAnyL_one (i := 10) (o := { dst := some 24, op := Op.nilCheck (Operand.tmp 14), type := 0, pos := "ref.go:130", after := #[{ on := 0, ground := Ground.data }, { on := 0, ground := Ground.phase }, { on := 1, ground := Ground.phase }, { on := 2, ground := Ground.phase }, { on := 3, ground := Ground.phase }, { on := 4, ground := Ground.phase }, { on := 5, ground := Ground.phase }, { on := 6, ground := Ground.phase }, { on := 7, ground := Ground.phase }, { on := 8, ground := Ground.phase }, { on := 9, ground := Ground.phase }], guard := none }) rfl (by kernel_rfl) (fun K hK => ?_)
        go_simp
        refine hK _ _ (Or.inr a6) ?_
        refine wpAnyL_one (i := 11) (o := { dst := some 25, op := Op.fieldAddr 50 (Operand.tmp 24) 1, type := 0, pos := "ref.go:130", after := #[{ on := 10, ground := Ground.data }, { on := 0, ground := Ground.phase }, { on := 1, ground := Ground.phase }, { on := 2, ground := Ground.phase }, { on := 3, ground := Ground.phase }, { on := 4, ground := Ground.phase }, { on := 5, ground := Ground.phase }, { on := 6, ground := Ground.phase }, { on := 7, ground := Ground.phase }, { on := 8, ground := Ground.phase }, { on := 9, ground := Ground.phase }], guard := none }) rfl (by kernel_rfl) (fun K hK => ?_)
        go_simp
        refine hK _ _ (Or.inr a6) ?_
        refine wpAnyL_one (i := 12) (o := { dst := none, op := Op.store 48 (Operand.tmp 25) (Operand.tmp 23), type := 0, pos := "ref.go:130", after := #[{ on := 11, ground := Ground.data }, { on := 9, ground := Ground.data }, { on := 9, ground := Ground.chain }, { on := 0, ground := Ground.phase }, { on := 1, ground := Ground.phase }, { on := 2, ground := Ground.phase }, { on := 3, ground := Ground.phase }, { on := 4, ground := Ground.phase }, { on := 5, ground := Ground.phase }, { on := 6, ground := Ground.phase }, { on := 7, ground := Ground.phase }, { on := 8, ground := Ground.phase }, { on := 9, ground := Ground.phase }], guard := none }) rfl (by kernel_rfl) (fun K hK => ?_)
        go_simp
        refine hK _ _ (Or.inl rfl) ?_
        refine wpAnyL_done (by kernel_rfl) ?_ _
        go_wp2
        go_meet
        exact ⟨g6, cap6, FN⟩
      · go_simp
        refine hK _ _ (Or.inr a3) ?_
        refine wpAnyL_one (i := 6) (o := { dst := some 20, op := Op.call { callee := Callee.builtin Builtin.append, args := #[Operand.tmp 15, Operand.tmp 19], argTypes := #[48, 48] }, type := 48, pos := "ref.go:130", after := #[{ on := 1, ground := Ground.data }, { on := 5, ground := Ground.data }], guard := none }) rfl (by kernel_rfl) (fun K hK => ?_)
        refine step_app_any rfl (.tmp 15) (.tmp 19) 48 rfl 96 i0 (.agg #[.int .i64 0, .string ⟨#[]⟩, .string ⟨#[]⟩, .int .i64 0, .string ⟨#[]⟩]) 5 64 Tryz.underlying48 hi0 hz0 hz1 hz2 rfl (by decide) rfl oE2 _ _ _ EV rfl (unhide HCL) (unhide SRC _ kE1).2.1 (unhide SRC _ kE1).1 (unhide SRC _ kE2).2.2 (unhide HCO) (by unfold maxLen; omega) (by omega) N (Nat.zero_add _) ?_
        intro g5 cap5 w5 own5 gr5 at5
        have k5 : Kp [] w1 w5 := kp_gr kE2 gr5 (by omega)
        have hg5 : w1.heap.size ≤ g5 := by rcases at5 with rfl | rfl <;> (try simp) <;> omega
        have a5 := unhide RW w5 k5
        have a5m := unhide RW (w5.alloc (.cells #[.int .i64 a, .string n, .string m, .int .i64 x, .string s] 96)) (k5.trans (Kp.alloc _ _) (by simp))
        have m5 := mE2.gr gr5 (by omega)
        refine hK _ _ (Or.inr a5) ?_
        try simp only [Act.put, List.setIfInBounds_toArray, List.set_cons_zero, List.set_cons_succ]
        refine wpAnyL_one (i := 9) (o := { dst := some 23, op := Op.call { callee := Callee.builtin Builtin.append, args := #[Operand.tmp 20, Operand.tmp 22], argTypes := #[48, 48] }, type := 48, pos := "ref.go:130", after := #[{ on := 6, ground := Ground.data }, { on := 8, ground := Ground.data }, { on := 6, ground := Ground.chain }], guard := none }) rfl (by kernel_rfl) (fun K hK => ?_)
        refine step_app_any rfl (.tmp 20) (.tmp 22) 48 rfl 96 i0 (.agg #[.int .i64 0, .string ⟨#[]⟩, .string ⟨#[]⟩, .int .i64 0, .string ⟨#[]⟩]) 5 64 Tryz.underlying48 hi0 hz0 hz1 hz2 rfl (by decide) rfl own5 _ _ _ #[Value.int .i64 a, .string n, .string m, .int .i64 x, .string s].toList rfl rfl (fun h => by cases h) (fun a ha => by injection ha with ha; subst ha; rfl) (box_at m5) (unhide HON) (by unfold maxLen; omega) (by omega) (N + 1) rfl ?_
        intro g6 cap6 w6 own6 gr6 at6
        have k6 : Kp [] w1 w6 := kp_gr k5 gr6 hg5
        have hg6 : w1.heap.size ≤ g6 := by have := k5.size; rcases at6 with rfl | rfl <;> (try simp) <;> omega
        have a6 := unhide RW w6 k6
        have f6 := unhide FZ w6 k6
        have FN := hide (unhide FIN w6 k6 g6 cap6 own6 hg6)
        refine hK _ _ (Or.inr a6) ?_
        try simp only [Act.put, List.setIfInBounds_toArray, List.set_cons_zero, List.set_cons_succ]
        refine wpAnyL_one (i := 10) (o := { dst := some 24, op := Op.nilCheck (Operand.tmp 14), type := 0, pos := "ref.go:130", after := #[{ on := 0, ground := Ground.data }, { on := 0, ground := Ground.phase }, { on := 1, ground := Ground.phase }, { on := 2, ground := Ground.phase }, { on := 3, ground := Ground.phase }, { on := 4, ground := Ground.phase }, { on := 5, ground := Ground.phase }, { on := 6, ground := Ground.phase }, { on := 7, ground := Ground.phase }, { on := 8, ground := Ground.phase }, { on := 9, ground := Ground.phase }], guard := none }) rfl (by kernel_rfl) (fun K hK => ?_)
        go_simp
        refine hK _ _ (Or.inr a6) ?_
        refine wpAnyL_one (i := 11) (o := { dst := some 25, op := Op.fieldAddr 50 (Operand.tmp 24) 1, type := 0, pos := "ref.go:130", after := #[{ on := 10, ground := Ground.data }, { on := 0, ground := Ground.phase }, { on := 1, ground := Ground.phase }, { on := 2, ground := Ground.phase }, { on := 3, ground := Ground.phase }, { on := 4, ground := Ground.phase }, { on := 5, ground := Ground.phase }, { on := 6, ground := Ground.phase }, { on := 7, ground := Ground.phase }, { on := 8, ground := Ground.phase }, { on := 9, ground := Ground.phase }], guard := none }) rfl (by kernel_rfl) (fun K hK => ?_)
        go_simp
        refine hK _ _ (Or.inr a6) ?_
        refine wpAnyL_one (i := 12) (o := { dst := none, op := Op.store 48 (Operand.tmp 25) (Operand.tmp 23), type := 0, pos := "ref.go:130", after := #[{ on := 11, ground := Ground.data }, { on := 9, ground := Ground.data }, { on := 9, ground := Ground.chain }, { on := 0, ground := Ground.phase }, { on := 1, ground := Ground.phase }, { on := 2, ground := Ground.phase }, { on := 3, ground := Ground.phase }, { on := 4, ground := Ground.phase }, { on := 5, ground := Ground.phase }, { on := 6, ground := Ground.phase }, { on := 7, ground := Ground.phase }, { on := 8, ground := Ground.phase }, { on := 9, ground := Ground.phase }], guard := none }) rfl (by kernel_rfl) (fun K hK => ?_)
        go_simp
        refine hK _ _ (Or.inl rfl) ?_
        refine wpAnyL_done (by kernel_rfl) ?_ _
        go_wp2
        go_meet
        exact ⟨g6, cap6, FN⟩
    · go_simp
      refine hK _ _ (Or.inr a2) ?_
      refine wpAnyL_one (i := 1) (o := { dst := some 15, op := Op.buildSlice 48 0 #[], type := 48, pos := "ref.go:130", after := #[], guard := none }) rfl (by kernel_rfl) (fun K hK => ?_)
      go_simp
      refine hK _ _ (Or.inr a4) ?_
      refine wpAnyL_one (i := 6) (o := { dst := some 20, op := Op.call { callee := Callee.builtin Builtin.append, args := #[Operand.tmp 15, Operand.tmp 19], argTypes := #[48, 48] }, type := 48, pos := "ref.go:130", after := #[{ on := 1, ground := Ground.data }, { on := 5, ground := Ground.data }], guard := none }) rfl (by kernel_rfl) (fun K hK => ?_)
      refine step_app_any rfl (.tmp 15) (.tmp 19) 48 rfl 96 i0 (.agg #[.int .i64 0, .string ⟨#[]⟩, .string ⟨#[]⟩, .int .i64 0, .string ⟨#[]⟩]) 5 64 Tryz.underlying48 hi0 hz0 hz1 hz2 rfl (by decide) rfl oE3 _ _ _ EV rfl (unhide HCL) (unhide SRC _ kE1).2.1 (unhide SRC _ kE1).1 (unhide SRC _ kE3).2.2 (unhide HCO) (by unfold maxLen; omega) (by omega) N (Nat.zero_add _) ?_
      intro g5 cap5 w5 own5 gr5 at5
      have k5 : Kp [] w1 w5 := kp_gr kE3 gr5 (by omega)
      have hg5 : w1.heap.size ≤ g5 := by rcases at5 with rfl | rfl <;> (try simp) <;> omega
      have a5 := unhide RW w5 k5
      have a5m := unhide RW (w5.alloc (.cells #[.int .i64 a, .string n, .string m, .int .i64 x, .string s] 96)) (k5.trans (Kp.alloc _ _) (by simp))
      have m5 := mE3.gr gr5 (by omega)
      refine hK _ _ (Or.inr a5) ?_
      try simp only [Act.put, List.setIfInBounds_toArray, List.set_cons_zero, List.set_cons_succ]
      refine wpAnyL_one (i := 9) (o := { dst := some 23, op := Op.call { callee := Callee.builtin Builtin.append, args := #[Operand.tmp 20, Operand.tmp 22], argTypes := #[48, 48] }, type := 48, pos := "ref.go:130", after := #[{ on := 6, ground := Ground.data }, { on := 8, ground := Ground.data }, { on := 6, ground := Ground.chain }], guard := none }) rfl (by kernel_rfl) (fun K hK => ?_)
      refine step_app_any rfl (.tmp 20) (.tmp 22) 48 rfl 96 i0 (.agg #[.int .i64 0, .string ⟨#[]⟩, .string ⟨#[]⟩, .int .i64 0, .string ⟨#[]⟩]) 5 64 Tryz.underlying48 hi0 hz0 hz1 hz2 rfl (by decide) rfl own5 _ _ _ #[Value.int .i64 a, .string n, .string m, .int .i64 x, .string s].toList rfl rfl (fun h => by cases h) (fun a ha => by injection ha with ha; subst ha; rfl) (box_at m5) (unhide HON) (by unfold maxLen; omega) (by omega) (N + 1) rfl ?_
      intro g6 cap6 w6 own6 gr6 at6
      have k6 : Kp [] w1 w6 := kp_gr k5 gr6 hg5
      have hg6 : w1.heap.size ≤ g6 := by have := k5.size; rcases at6 with rfl | rfl <;> (try simp) <;> omega
      have a6 := unhide RW w6 k6
      have f6 := unhide FZ w6 k6
      have FN := hide (unhide FIN w6 k6 g6 cap6 own6 hg6)
      refine hK _ _ (Or.inr a6) ?_
      try simp only [Act.put, List.setIfInBounds_toArray, List.set_cons_zero, List.set_cons_succ]
      refine wpAnyL_one (i := 10) (o := { dst := some 24, op := Op.nilCheck (Operand.tmp 14), type := 0, pos := "ref.go:130", after := #[{ on := 0, ground := Ground.data }, { on := 0, ground := Ground.phase }, { on := 1, ground := Ground.phase }, { on := 2, ground := Ground.phase }, { on := 3, ground := Ground.phase }, { on := 4, ground := Ground.phase }, { on := 5, ground := Ground.phase }, { on := 6, ground := Ground.phase }, { on := 7, ground := Ground.phase }, { on := 8, ground := Ground.phase }, { on := 9, ground := Ground.phase }], guard := none }) rfl (by kernel_rfl) (fun K hK => ?_)
      go_simp
      refine hK _ _ (Or.inr a6) ?_
      refine wpAnyL_one (i := 11) (o := { dst := some 25, op := Op.fieldAddr 50 (Operand.tmp 24) 1, type := 0, pos := "ref.go:130", after := #[{ on := 10, ground := Ground.data }, { on := 0, ground := Ground.phase }, { on := 1, ground := Ground.phase }, { on := 2, ground := Ground.phase }, { on := 3, ground := Ground.phase }, { on := 4, ground := Ground.phase }, { on := 5, ground := Ground.phase }, { on := 6, ground := Ground.phase }, { on := 7, ground := Ground.phase }, { on := 8, ground := Ground.phase }, { on := 9, ground := Ground.phase }], guard := none }) rfl (by kernel_rfl) (fun K hK => ?_)
      go_simp
      refine hK _ _ (Or.inr a6) ?_
      refine wpAnyL_one (i := 12) (o := { dst := none, op := Op.store 48 (Operand.tmp 25) (Operand.tmp 23), type := 0, pos := "ref.go:130", after := #[{ on := 11, ground := Ground.data }, { on := 9, ground := Ground.data }, { on := 9, ground := Ground.chain }, { on := 0, ground := Ground.phase }, { on := 1, ground := Ground.phase }, { on := 2, ground := Ground.phase }, { on := 3, ground := Ground.phase }, { on := 4, ground := Ground.phase }, { on := 5, ground := Ground.phase }, { on := 6, ground := Ground.phase }, { on := 7, ground := Ground.phase }, { on := 8, ground := Ground.phase }, { on := 9, ground := Ground.phase }], guard := none }) rfl (by kernel_rfl) (fun K hK => ?_)
      go_simp
      refine hK _ _ (Or.inl rfl) ?_
      refine wpAnyL_done (by kernel_rfl) ?_ _
      go_wp2
      go_meet
      exact ⟨g6, cap6, FN⟩
  case rest =>
    obtain ⟨g7, cap7, HR⟩ := hcut
    clear a0 a1 a2 a3 a4 oE1 oE2 oE3 mE2 mE3 kE1 kE2 kE3 kM1 RW SRC FIN FZ HCL HCO HON
    have MD2 := hide (fun W (hk : Kp [] wc W) => unhide HMD W (unhide HNW W ((unhide HR).2.2.1.trans hk (by simp))))
    have R2 : Hid (∀ W, Kp [] wc W → (W.cell? ⟨w.heap.size, 0, none⟩ = some (.int .i64 a) ∧ W.cell? ⟨w.heap.size, 1, none⟩ = some (.string n) ∧ W.cell? ⟨w.heap.size, 2, none⟩ = some (.string m) ∧ W.cell? ⟨w.heap.size, 3, none⟩ = some (.int .i64 x) ∧ W.cell? ⟨w.heap.size, 4, none⟩ = some (.string s)) ∧ W.cell? ⟨p, 2, none⟩ = some (.slice an nn cn) ∧ W.frozen? ⟨p, 2, none⟩ = false) := hide (fun W hk => by
      have b := (unhide HR).2.2.2.1.kp hk (by simp)
      have b2 := (unhide HR).1.kp hk (by simp)
      exact ⟨⟨b.cell rfl, b.cell rfl, b.cell rfl, b.cell rfl, b.cell rfl⟩, b2.cell rfl, b2.froz _⟩)
    have e0 := unhide R2 wc.drew (Kp.drew _)
    have MD3 := hide (unhide MD2 wc.drew (Kp.drew _))
    clear MD2 HMD HNW
    go_wp2_with fail
    go_region_law
      (first
        | (go_simp; go_at_call 59; refine (unhide MD3).mono ?_; rintro r w8 ⟨v8, rfl, f8, k8, o8⟩; obtain ⟨a8, n8, c8, hv8⟩ : ∃ a8 n8 c8, v8 = .slice a8 n8 c8 := (by rcases f8.shape with ⟨e, _⟩ | ⟨_, _, e, _⟩ <;> exact ⟨_, _, _, e⟩); subst hv8; have e8 := unhide R2 w8 ((Kp.drew wc).trans k8 (by simp)); have F8 := hide f8; have K8 := hide k8; have O8 := hide o8; clear f8 k8 o8))
    all_goals
      have FF : Hid (CBox p (rfC vs (.slice (some ⟨g7, 0, none⟩) (N + 1) cap7) (.slice a8 n8 c8) d2.left d2.down) 50 (w8.setCell ⟨p, 2, none⟩ (.slice a8 n8 c8)) ∧ ChRow (w8.setCell ⟨p, 2, none⟩ (.slice a8 n8 c8)) (.slice (some ⟨g7, 0, none⟩) (N + 1) cap7) WT2 ∧ FlRow (w8.setCell ⟨p, 2, none⟩ (.slice a8 n8 c8)) (.slice a8 n8 c8) fs' ∧ Kp [p] w (w8.setCell ⟨p, 2, none⟩ (.slice a8 n8 c8)) ∧ (∀ k, (Value.slice (some ⟨g7, 0, none⟩) (N + 1) cap7).ownBlock = some k → w.heap.size ≤ k) ∧ ∀ k, (Value.slice a8 n8 c8).ownBlock = some k → w.heap.size ≤ k) := hide (by
        obtain ⟨h1, h2, h3, h4, h5⟩ := unhide HR
        have k9 := (Kp.drew wc).trans (unhide K8) (by simp)
        have ks := Kp.set w8 p 2 (.slice a8 n8 c8)
        have hz := h3.size
        refine ⟨(h1.kp k9 (by simp)).set 2 _, (h2.kp k9 (by simp)).kp ks (fun k hk => by simp [Value.ownBlock] at hk; subst hk; simp; omega), (unhide F8).kp ks (fun k hk hm => by rw [List.mem_singleton] at hm; have := unhide O8 k hk; have hh : wc.drew.heap.size = wc.heap.size := rfl; omega), (h3.trans k9 (by simp)).trans ks (fun x hx => Or.inl hx), fun k hk => by simp [Value.ownBlock] at hk; omega, fun k hk => by have := unhide O8 k hk; have hh : wc.drew.heap.size = wc.heap.size := rfl; omega⟩)
      clear F8 K8 O8 e8 e0 MD3 R2 HR
      go_wp2
      go_ret
      exact ⟨rfl, _, _, unhide FF⟩
end Go.Proofs.YtboffmbaaokbnaaGreatDoor
