/-
  Snapshots: the manifest's bytes, taken apart.
  Four results in slots. Of no program.
  Snapshots: the manifest as it lies on a disk; Latest; what must be ahead.
-/
import Derived.Test.YtdmckgcbmbhmmaaGreatDoorRw19
import Derived.Deep.RegionHeld3
import Derived.Test.YtdmckgcbmbhmmaaGreatDoorRw09
namespace Go.Proofs.YtdmckgcbmbhmmaaGreatDoor
open Go.RowKit

theorem info_mani : (Tryz.prog.info? 64).map (·.size) = some 3 := by kernel_rfl
/-- A manifest's cells. -/
def mfC (m : Mf) : Array Value := #[.int .i64 m.c, .int .i64 m.t, .string m.s]
theorem set3m (W : World) (g : Nat) (x y z : Value) : Kp [g] W (((W.setCell ⟨g, 0, none⟩ x).setCell ⟨g, 1, none⟩ y).setCell ⟨g, 2, none⟩ z) :=
  ((Kp.set W g 0 x).trans (Kp.set _ g 1 y) (fun _ h => Or.inl h)).trans (Kp.set _ g 2 z) (fun _ h => Or.inl h)
/-- A result that lies in a manifest's box, behind its store. -/
theorem mf_res {fn : Func} {p u : Tmp} (h : fn.results = #[.cell p 64, .tmp u]) (tmps : Array Value) (W : World) (g : Nat) (e n : Int) (t : ByteArray) (hp : tmps.getD p undef = .pointer (some ⟨g, 0, none⟩)) (a b c : Value) (hb : CBox g #[a, b, c] 64 W) :
    (results fn tmps).run Tryz.prog (((W.setCell ⟨g, 0, none⟩ (.int .i64 e)).setCell ⟨g, 1, none⟩ (.int .i64 n)).setCell ⟨g, 2, none⟩ (.string t)) = .ok (.tuple #[.agg #[.int .i64 e, .int .i64 n, .string t], tmps.getD u undef]) (((W.setCell ⟨g, 0, none⟩ (.int .i64 e)).setCell ⟨g, 1, none⟩ (.int .i64 n)).setCell ⟨g, 2, none⟩ (.string t)) :=
  results_row_tmp h tmps _ g 64 #[.int .i64 e, .int .i64 n, .string t] (0, 0) _ hp (((hb.set 0 (.int .i64 e)).set 1 (.int .i64 n)).set 2 (.string t)) Tryz.underlying64 rfl info_mani
theorem mf_items {B : Nat} {W : World} {v : Value} {x y z : It} (h : OwnsI B W v [x, y, z]) : ∃ bb cp, v = .slice (some ⟨bb, 0, none⟩) 3 cp ∧ 3 ≤ cp ∧ bb < W.heap.size ∧ W.cell? ⟨bb, 0, none⟩ = some (.bool x.t) ∧ W.cell? ⟨bb, 1, none⟩ = some (.int .i64 x.n) ∧ W.cell? ⟨bb, 3, none⟩ = some (.bool y.t) ∧ W.cell? ⟨bb, 4, none⟩ = some (.int .i64 y.n) ∧ W.cell? ⟨bb, 6, none⟩ = some (.bool z.t) ∧ W.cell? ⟨bb, 8, none⟩ = some (.string z.s) := by
  obtain ⟨_, ⟨_, h0⟩ | ⟨g, cp, cur, rfl, _, _, hn, _⟩⟩ := id h
  · simp at h0
  · have k := World.ownsRow.cells h (g := g) rfl
    have hl := (World.ownsRow.lt h g rfl).2
    have e : itemC [x, y, z] = [.bool x.t, .int .i64 x.n, .string x.s, .bool y.t, .int .i64 y.n, .string y.s, .bool z.t, .int .i64 z.n, .string z.s] := rfl
    rw [e] at k
    have f : ∀ j u, [Value.bool x.t, .int .i64 x.n, .string x.s, .bool y.t, .int .i64 y.n, .string y.s, .bool z.t, .int .i64 z.n, .string z.s][j]? = some u → W.cell? ⟨g, j, none⟩ = some u := fun j u hj => by
      have := k j u hj
      rwa [Go.WideShapes.add_plain, Nat.zero_add] at this
    exact ⟨g, cp, rfl, by simpa using hn, hl, f 0 _ rfl, f 1 _ rfl, f 3 _ rfl, f 4 _ rfl, f 6 _ rfl, f 8 _ rfl⟩
def mfG (o : Option Mf) : Mf := o.getD Mf.z
set_option maxHeartbeats 8000000 in
set_option maxRecDepth 100000 in
theorem mfOf_any (b : ByteArray) (w : World) (hb : b.size ≤ 9223372036854775807) :
    Calls Tryz.prog 56 #[.string b] w fun e w' => e = .returned (.tuple #[.agg #[.int .i64 (mfG (mfO b.data.toList)).c, .int .i64 (mfG (mfO b.data.toList)).t, .string (mfG (mfO b.data.toList)).s], .bool (mfO b.data.toList).isSome]) ∧ Kp [] w w' := by
  have DE := hide (decode_any b (w.alloc (.cells #[.int .i64 0, .int .i64 0, .string ⟨#[]⟩] 64)) hb)
  have B0 := CBox.new w #[.int .i64 0, .int .i64 0, .string ⟨#[]⟩] 64
  have K0 := hide (Kp.alloc w (.cells #[.int .i64 0, .int .i64 0, .string ⟨#[]⟩] 64))
  have HF : Hid (∀ W e n t, Kp [] w W → Kp [] w (((W.setCell ⟨w.heap.size, 0, none⟩ (.int .i64 e)).setCell ⟨w.heap.size, 1, none⟩ (.int .i64 n)).setCell ⟨w.heap.size, 2, none⟩ (.string t))) := hide (fun W e n t hk => hk.trans (set3m W w.heap.size _ _ _) (by simp))
  have H0 := hide B0
  have IS := hide fun c W => isSnap_any c W
  have IC := hide fun c W => isCount_any c W
  obtain ⟨l, hl⟩ : ∃ l, l = (decS b.data.toList).1 := ⟨_, rfl⟩
  obtain ⟨p, hp⟩ : ∃ p, p = (decS b.data.toList).2.1 := ⟨_, rfl⟩
  obtain ⟨c, hc⟩ : ∃ c, c = (decS b.data.toList).2.2 := ⟨_, rfl⟩
  have hR : mfO b.data.toList = if c = 0 then mfL l else none := by unfold mfO; rw [← hc, ← hl]
  rw [← hl, ← hp, ← hc] at DE
  generalize mfO b.data.toList = R at *
  clear hl hp hc hb B0
  by_cases hc0 : c = 0
  · subst hc0
    rw [if_pos rfl] at hR
    by_cases h3 : l.length = 3
    · obtain ⟨x, y, z, rfl⟩ : ∃ x y z, l = [x, y, z] := by
        match l, h3 with
        | [x, y, z], _ => exact ⟨x, y, z, rfl⟩
      have HE := hide (fun W v (h : OwnsI (w.heap.size + 1) W v [x, y, z]) => mf_items h)
      clear h3
      by_cases hk : x.t = false ∧ y.t = false ∧ z.t = true
      · have hk1 := hk.1
        have hk2 := hk.2.1
        have hk3 := hk.2.2
        have hR' : R = if (1 ≤ x.n ∧ x.n ≤ 1073741824) ∧ 1 ≤ y.n ∧ y.n ≤ 33 then some ⟨x.n, y.n, z.s⟩ else none := by
          rw [hR]
          show (if (x.t = false ∧ y.t = false ∧ z.t = true) ∧ (1 ≤ x.n ∧ x.n ≤ 1073741824) ∧ 1 ≤ y.n ∧ y.n ≤ 33 then some (Mf.mk x.n y.n z.s) else none) = _
          by_cases h : (1 ≤ x.n ∧ x.n ≤ 1073741824) ∧ 1 ≤ y.n ∧ y.n ≤ 33
          · rw [if_pos ⟨hk, h⟩, if_pos h]
          · rw [if_neg (fun e => h e.2), if_neg h]
        clear hR hk
        go_enter Tryz.func56, Tryz.ntmps56
        go_wp2_with fail
        refine (unhide DE).mono ?_
        rintro e w1 ⟨v, rfl, h1, k1⟩
        rw [World.size_alloc] at h1 k1
        obtain ⟨bb, cp, rfl, h3, hbb, c0, c1, c3, c4, c6, c8⟩ := unhide HE w1 v h1
        have h1' := (unhide H0).kp (F := []) (Kp.ofBelow (by rw [World.size_alloc]; exact k1)) (by simp)
        have k1' : Kp [] w w1 := (unhide K0).trans (Kp.ofBelow (by rw [World.size_alloc]; exact k1)) (by simp)
        clear h1 k1 H0 K0 DE HE
        go_upto_region 2 with fail
        obtain ⟨W2, hW2⟩ : ∃ W2, W2 = w1.alloc (.cells #[.int .i64 p, .int .i64 0] 100) := ⟨_, rfl⟩
        have k2 : Kp [] w1 W2 := by rw [hW2]; exact Kp.alloc _ _
        have fb : CBox w1.heap.size #[.int .i64 p, .int .i64 0] 100 W2 := by rw [hW2]; exact CBox.new _ _ _
        rw [← hW2]
        have f0 := fb.cell (i := 0) (v := .int .i64 p) rfl
        have f1 := fb.cell (i := 1) (v := .int .i64 0) rfl
        have H3 := hide (h1'.kp k2 (by simp))
        have K3 := hide (k1'.trans k2 (by simp))
        have x0 := k2.cell c0 (by simp)
        have x1 := k2.cell c1 (by simp)
        have x3 := k2.cell c3 (by simp)
        have x4 := k2.cell c4 (by simp)
        have x6 := k2.cell c6 (by simp)
        have x8 := k2.cell c8 (by simp)
        rw [hk1] at x0
        rw [hk2] at x3
        rw [hk3] at x6
        clear hW2 k2 fb h1' k1' c0 c1 c3 c4 c6 c8
        have cA : W2.drew.cell? ⟨bb, 1, none⟩ = some (.int .i64 x.n) ∧ W2.drew.cell? ⟨bb, 4, none⟩ = some (.int .i64 y.n) ∧ W2.drew.cell? ⟨bb, 8, none⟩ = some (.string z.s) := ⟨x1, x4, x8⟩
        have kB : ∀ o, Kp [] W2 (W2.alloc o).drew := fun o => (Kp.alloc W2 o).trans (Kp.drew _) (by simp)
        have cB : ∀ o, (W2.alloc o).drew.cell? ⟨bb, 1, none⟩ = some (.int .i64 x.n) ∧ (W2.alloc o).drew.cell? ⟨bb, 4, none⟩ = some (.int .i64 y.n) ∧ (W2.alloc o).drew.cell? ⟨bb, 8, none⟩ = some (.string z.s) := fun o => ⟨(kB o).cell x1 (by simp), (kB o).cell x4 (by simp), (kB o).cell x8 (by simp)⟩
        go_upto_region 4 with fail
        clear x0 x3 x6 f0 f1
        go_region_held3 (fun W => W.cell? ⟨bb, 1, none⟩ = some (.int .i64 x.n) ∧ W.cell? ⟨bb, 4, none⟩ = some (.int .i64 y.n) ∧ W.cell? ⟨bb, 8, none⟩ = some (.string z.s)) (first | with_reducible exact cA | with_reducible exact cB _)
          (fail)
        obtain ⟨W3, hW3⟩ : ∃ W3, W3 = (W2.alloc (.cells #[.int .i64 x.n, .int .i64 y.n, .string z.s] 64)).drew := ⟨_, rfl⟩
        rw [← hW3]
        have k3 : Kp [] W2 W3 := by rw [hW3]; exact kB _
        have mb : CBox W2.heap.size #[.int .i64 x.n, .int .i64 y.n, .string z.s] 64 W3 := by rw [hW3]; exact CBox.new W2 _ _
        have m0 := mb.cell (i := 0) (v := .int .i64 x.n) rfl
        have m1 := mb.cell (i := 1) (v := .int .i64 y.n) rfl
        have m2 := mb.cell (i := 2) (v := .string z.s) rfl
        have H4 := hide ((unhide H3).kp k3 (by simp))
        have K4 := hide ((unhide K3).trans k3 (by simp))
        clear k3 mb hW3 H3 K3 x1 x4 x8 cA cB kB
        have r0 := (unhide H4).cell (i := 0) (v := .int .i64 0) rfl
        have r1 := (unhide H4).cell (i := 1) (v := .int .i64 0) rfl
        have r2 := (unhide H4).cell (i := 2) (v := .string ⟨#[]⟩) rfl
        have g0 := (unhide H4).froz 0
        have g1 := (unhide H4).froz 1
        have g2 := (unhide H4).froz 2
        go_wp2_with fail
        refine (unhide IS _ _).mono ?_
        rintro e w5 ⟨rfl, rfl⟩
        by_cases h1 : 1 ≤ x.n ∧ x.n ≤ 1073741824
        · rw [decide_eq_true h1]
          go_wp2_with fail
          refine (unhide IC _ _).mono ?_
          rintro e w6 ⟨rfl, rfl⟩
          by_cases h2 : 1 ≤ y.n ∧ y.n ≤ 33
          · rw [decide_eq_true h2]
            have HR : Hid (R = some ⟨x.n, y.n, z.s⟩) := hide (by rw [hR']; exact if_pos ⟨h1, h2⟩)
            clear hR'
            go_wp2
            exact bodyPost_ret (mf_res (p := 2) (u := 3) rfl _ w6 w.heap.size x.n y.n z.s rfl _ _ _ (unhide H4)) rfl ⟨by rw [unhide HR]; rfl, unhide HF w6 x.n y.n z.s (unhide K4)⟩
          · rw [decide_eq_false h2]
            have HR : Hid (R = none) := hide (by rw [hR']; exact if_neg (fun h => h2 h.2))
            clear hR'
            go_wp2
            exact bodyPost_ret (mf_res (p := 2) (u := 3) rfl _ w6 w.heap.size 0 0 ⟨#[]⟩ rfl _ _ _ (unhide H4)) rfl ⟨by rw [unhide HR]; rfl, unhide HF w6 0 0 ⟨#[]⟩ (unhide K4)⟩
        · rw [decide_eq_false h1]
          have HR : Hid (R = none) := hide (by rw [hR']; exact if_neg (fun h => h1 h.1))
          clear hR'
          go_wp2
          exact bodyPost_ret (mf_res (p := 2) (u := 3) rfl _ w5 w.heap.size 0 0 ⟨#[]⟩ rfl _ _ _ (unhide H4)) rfl ⟨by rw [unhide HR]; rfl, unhide HF w5 0 0 ⟨#[]⟩ (unhide K4)⟩
      · have HR : Hid (R = none) := hide (by rw [hR]; exact if_neg (fun h => hk h.1))
        clear hR
        go_enter Tryz.func56, Tryz.ntmps56
        go_wp2_with fail
        refine (unhide DE).mono ?_
        rintro e w1 ⟨v, rfl, h1, k1⟩
        rw [World.size_alloc] at h1 k1
        obtain ⟨bb, cp, rfl, h3, hbb, c0, c1, c3, c4, c6, c8⟩ := unhide HE w1 v h1
        have h1' := (unhide H0).kp (F := []) (Kp.ofBelow (by rw [World.size_alloc]; exact k1)) (by simp)
        have k1' : Kp [] w w1 := (unhide K0).trans (Kp.ofBelow (by rw [World.size_alloc]; exact k1)) (by simp)
        clear h1 k1 H0 K0 DE HE
        go_upto_region 2 with fail
        obtain ⟨W2, hW2⟩ : ∃ W2, W2 = w1.alloc (.cells #[.int .i64 p, .int .i64 0] 100) := ⟨_, rfl⟩
        have k2 : Kp [] w1 W2 := by rw [hW2]; exact Kp.alloc _ _
        have fb : CBox w1.heap.size #[.int .i64 p, .int .i64 0] 100 W2 := by rw [hW2]; exact CBox.new _ _ _
        rw [← hW2]
        have f0 := fb.cell (i := 0) (v := .int .i64 p) rfl
        have f1 := fb.cell (i := 1) (v := .int .i64 0) rfl
        have H3 := hide (h1'.kp k2 (by simp))
        have K3 := hide (k1'.trans k2 (by simp))
        have x0 := k2.cell c0 (by simp)
        have x1 := k2.cell c1 (by simp)
        have x3 := k2.cell c3 (by simp)
        have x4 := k2.cell c4 (by simp)
        have x6 := k2.cell c6 (by simp)
        have x8 := k2.cell c8 (by simp)
        clear hW2 k2 fb h1' k1' c0 c1 c3 c4 c6 c8
        have r0 := (unhide H3).cell (i := 0) (v := .int .i64 0) rfl
        have r1 := (unhide H3).cell (i := 1) (v := .int .i64 0) rfl
        have r2 := (unhide H3).cell (i := 2) (v := .string ⟨#[]⟩) rfl
        have g0 := (unhide H3).froz 0
        have g1 := (unhide H3).froz 1
        have g2 := (unhide H3).froz 2
        generalize x.t = xt at *
        generalize y.t = yt at *
        generalize z.t = zt at *
        cases xt <;> cases yt <;> cases zt <;> first | exact absurd ⟨rfl, rfl, rfl⟩ hk | (clear hk; go_wp2; exact bodyPost_ret (mf_res (p := 2) (u := 3) rfl _ W2 w.heap.size 0 0 ⟨#[]⟩ rfl _ _ _ (unhide H3)) rfl ⟨by rw [unhide HR]; rfl, unhide HF W2 0 0 ⟨#[]⟩ (unhide K3)⟩)
    · have HR : Hid (R = none) := hide (by
        rw [hR]
        unfold mfL
        split
        · exact absurd rfl h3
        · rfl)
      have h3i : ((l.length : Int) != 3) = true := by rw [bne_iff_ne]; omega
      have HE : Hid (∀ W v, OwnsI (w.heap.size + 1) W v l → ∃ ad cp, v = .slice ad l.length cp) := hide (fun W v h => h.form)
      clear hR h3
      go_enter Tryz.func56, Tryz.ntmps56
      go_wp2_with fail
      refine (unhide DE).mono ?_
      rintro e w1 ⟨v, rfl, h1, k1⟩
      rw [World.size_alloc] at h1 k1
      obtain ⟨ad, cp, rfl⟩ := unhide HE w1 v h1
      have h1' := (unhide H0).kp (F := []) (Kp.ofBelow (by rw [World.size_alloc]; exact k1)) (by simp)
      have k1' : Kp [] w w1 := (unhide K0).trans (Kp.ofBelow (by rw [World.size_alloc]; exact k1)) (by simp)
      clear h1 k1 H0 K0 DE HE
      go_upto_region 2 with fail
      obtain ⟨W2, hW2⟩ : ∃ W2, W2 = w1.alloc (.cells #[.int .i64 p, .int .i64 0] 100) := ⟨_, rfl⟩
      have k2 : Kp [] w1 W2 := by rw [hW2]; exact Kp.alloc _ _
      have fb : CBox w1.heap.size #[.int .i64 p, .int .i64 0] 100 W2 := by rw [hW2]; exact CBox.new _ _ _
      rw [← hW2]
      have f0 := fb.cell (i := 0) (v := .int .i64 p) rfl
      have f1 := fb.cell (i := 1) (v := .int .i64 0) rfl
      have H3 := hide (h1'.kp k2 (by simp))
      have K3 := hide (k1'.trans k2 (by simp))
      clear hW2 k2 fb h1' k1'
      have r0 := (unhide H3).cell (i := 0) (v := .int .i64 0) rfl
      have r1 := (unhide H3).cell (i := 1) (v := .int .i64 0) rfl
      have r2 := (unhide H3).cell (i := 2) (v := .string ⟨#[]⟩) rfl
      have g0 := (unhide H3).froz 0
      have g1 := (unhide H3).froz 1
      have g2 := (unhide H3).froz 2
      go_wp2
      exact bodyPost_ret (mf_res (p := 2) (u := 3) rfl _ W2 w.heap.size 0 0 ⟨#[]⟩ rfl _ _ _ (unhide H3)) rfl ⟨by rw [unhide HR]; rfl, unhide HF W2 0 0 ⟨#[]⟩ (unhide K3)⟩
  · have HR : Hid (R = none) := hide (by rw [hR, if_neg hc0])
    have hci : (c != 0) = true := by rw [bne_iff_ne]; exact hc0
    have HE : Hid (∀ W v, OwnsI (w.heap.size + 1) W v l → ∃ ad cp, v = .slice ad l.length cp) := hide (fun W v h => h.form)
    clear hR hc0
    go_enter Tryz.func56, Tryz.ntmps56
    go_wp2_with fail
    refine (unhide DE).mono ?_
    rintro e w1 ⟨v, rfl, h1, k1⟩
    rw [World.size_alloc] at h1 k1
    obtain ⟨ad, cp, rfl⟩ := unhide HE w1 v h1
    have h1' := (unhide H0).kp (F := []) (Kp.ofBelow (by rw [World.size_alloc]; exact k1)) (by simp)
    have k1' : Kp [] w w1 := (unhide K0).trans (Kp.ofBelow (by rw [World.size_alloc]; exact k1)) (by simp)
    clear h1 k1 H0 K0 DE HE
    go_upto_region 2 with fail
    obtain ⟨W2, hW2⟩ : ∃ W2, W2 = w1.alloc (.cells #[.int .i64 p, .int .i64 c] 100) := ⟨_, rfl⟩
    have k2 : Kp [] w1 W2 := by rw [hW2]; exact Kp.alloc _ _
    have fb : CBox w1.heap.size #[.int .i64 p, .int .i64 c] 100 W2 := by rw [hW2]; exact CBox.new _ _ _
    rw [← hW2]
    have f0 := fb.cell (i := 0) (v := .int .i64 p) rfl
    have f1 := fb.cell (i := 1) (v := .int .i64 c) rfl
    have H3 := hide (h1'.kp k2 (by simp))
    have K3 := hide (k1'.trans k2 (by simp))
    clear hW2 k2 fb h1' k1'
    have r0 := (unhide H3).cell (i := 0) (v := .int .i64 0) rfl
    have r1 := (unhide H3).cell (i := 1) (v := .int .i64 0) rfl
    have r2 := (unhide H3).cell (i := 2) (v := .string ⟨#[]⟩) rfl
    have g0 := (unhide H3).froz 0
    have g1 := (unhide H3).froz 1
    have g2 := (unhide H3).froz 2
    go_wp2
    exact bodyPost_ret (mf_res (p := 2) (u := 3) rfl _ W2 w.heap.size 0 0 ⟨#[]⟩ rfl _ _ _ (unhide H3)) rfl ⟨by rw [unhide HR]; rfl, unhide HF W2 0 0 ⟨#[]⟩ (unhide K3)⟩
end Go.Proofs.YtdmckgcbmbhmmaaGreatDoor
namespace Go.Proofs.YtdmckgcbmbhmmaaGreatDoor
open Go.RowKit

theorem results_tmp4 {fn : Func} {t u v x : Tmp} (h : fn.results = #[.tmp t, .tmp u, .tmp v, .tmp x]) (tmps : Array Value) (P : Program) (w : World) :
    (results fn tmps).run P w = .ok (.tuple #[tmps.getD t undef, tmps.getD u undef, tmps.getD v undef, tmps.getD x undef]) w := by
  simp [results, h, go_sem]
end Go.Proofs.YtdmckgcbmbhmmaaGreatDoor
namespace Go.Proofs.YtdmckgcbmbhmmaaGreatDoor
open Go.RowKit

set_option maxHeartbeats 2000000 in
set_option maxRecDepth 100000 in
theorem readMf_any {w0 w : World} {p : Nat} {d : Dk} (h : OwnD w0 w p d) (hT : TabW w0) :
    Calls Tryz.prog 22 #[.pointer (some ⟨p, 0, none⟩)] w fun e w' => e = .returned (.tuple #[.agg #[.int .i64 d.laM.c, .int .i64 d.laM.t, .string d.laM.s], .int .i64 d.laE]) ∧ Kp [] w w' := by
  have B0 := CBox.new w #[.int .i64 0, .int .i64 0, .string ⟨#[]⟩] 64
  have k0 := Kp.alloc w (.cells #[.int .i64 0, .int .i64 0, .string ⟨#[]⟩] 64)
  have HF : Hid (∀ W e n t, Kp [] w W → Kp [] w (((W.setCell ⟨w.heap.size, 0, none⟩ (.int .i64 e)).setCell ⟨w.heap.size, 1, none⟩ (.int .i64 n)).setCell ⟨w.heap.size, 2, none⟩ (.string t))) := hide (fun W e n t hk => hk.trans (set3m W w.heap.size _ _ _) (by simp))
  have RF := hide (readFr_any (h.kp k0) hT mNm (by decide))
  have K0 := hide k0
  have H0 := hide B0
  have hsz : (d.oneS mNm).size ≤ 9223372036854775807 := by
    have hs := rdS_small h.inv mNm
    unfold Dk.oneS
    split
    · rename_i h0
      unfold Dk.oneE at h0
      split at h0
      · split at h0
        · rename_i h1 h2
          have := h2.2
          unfold Dk.oneR unfS at h2 ⊢
          show (List.toArray _).size ≤ _
          rw [List.size_toArray]
          split
          · exact Nat.zero_le _
          · split
            · exact Nat.zero_le _
            · dsimp only
              by_cases hb : (bodyS (List.drop (0 : Int).toNat (d.rdS mNm).data.toList)).2 = 0
              · have := bodyS_ok _ hb
                omega
              · rename_i h5 h6
                exact absurd hb (by simpa using h6)
        · cases h0
      · rename_i hne; exact absurd h0 hne
    · exact Nat.zero_le _
  have MF := hide (fun W => mfOf_any (d.oneS mNm) W hsz)
  have hE : d.laE = if d.oneE mNm = 0 then (if (mfO (d.oneS mNm).data.toList).isSome then 0 else 40) else d.oneE mNm := rfl
  have hM : d.laM = if d.oneE mNm = 0 then (mfO (d.oneS mNm).data.toList).getD Mf.z else Mf.z := rfl
  generalize d.laE = E at *
  generalize d.laM = M at *
  generalize d.oneE mNm = e0 at *
  generalize mfO (d.oneS mNm).data.toList = R at *
  generalize d.oneS mNm = b at *
  rw [show mNm = ⟨#[109]⟩ from rfl] at RF
  clear h hT B0 k0 hsz
  by_cases hz : e0 = 0
  · subst hz
    rw [if_pos rfl] at hE hM
    cases R with
    | none =>
      have HE : Hid (E = 40 ∧ M = Mf.z) := hide ⟨hE, hM⟩
      clear hE hM
      go_enter Tryz.func22, Tryz.ntmps22
      go_wp2_with fail
      refine (unhide RF).mono ?_
      rintro e w1 ⟨rfl, k1⟩
      go_wp2_with fail
      refine (unhide MF _).mono ?_
      rintro e w2 ⟨rfl, k2⟩
      have k3 := Kp.alloc w2 (.cells #[.int .i64 (mfG none).c, .int .i64 (mfG none).t, .string (mfG none).s] 64)
      have H3 := hide ((((unhide H0).kp k1 (by simp)).kp k2 (by simp)).kp k3 (by simp))
      have K3 := hide ((((unhide K0).trans k1 (by simp)).trans k2 (by simp)).trans k3 (by simp))
      clear k1 k2 k3 H0 K0 RF MF
      have r0 := (unhide H3).cell (i := 0) (v := .int .i64 0) rfl
      have r1 := (unhide H3).cell (i := 1) (v := .int .i64 0) rfl
      have r2 := (unhide H3).cell (i := 2) (v := .string ⟨#[]⟩) rfl
      have g0 := (unhide H3).froz 0
      have g1 := (unhide H3).froz 1
      have g2 := (unhide H3).froz 2
      go_wp2
      exact bodyPost_ret (mf_res (p := 2) (u := 3) rfl _ _ w.heap.size 0 0 ⟨#[]⟩ rfl _ _ _ (unhide H3)) rfl ⟨by rw [(unhide HE).1, (unhide HE).2]; rfl, unhide HF _ 0 0 ⟨#[]⟩ (unhide K3)⟩
    | some m =>
      have HE : Hid (E = 0 ∧ M = m) := hide ⟨hE, hM⟩
      clear hE hM
      have hmf : mfG (some m) = m := rfl
      rw [hmf] at MF
      clear hmf
      go_enter Tryz.func22, Tryz.ntmps22
      go_wp2_with fail
      refine (unhide RF).mono ?_
      rintro e w1 ⟨rfl, k1⟩
      go_wp2_with fail
      refine (unhide MF _).mono ?_
      rintro e w2 ⟨rfl, k2⟩
      have k3 := Kp.alloc w2 (.cells #[.int .i64 m.c, .int .i64 m.t, .string m.s] 64)
      have mb := CBox.new w2 #[.int .i64 m.c, .int .i64 m.t, .string m.s] 64
      have H3 := hide ((((unhide H0).kp k1 (by simp)).kp k2 (by simp)).kp k3 (by simp))
      have K3 := hide ((((unhide K0).trans k1 (by simp)).trans k2 (by simp)).trans k3 (by simp))
      have m0 := mb.cell (i := 0) (v := .int .i64 m.c) rfl
      have m1 := mb.cell (i := 1) (v := .int .i64 m.t) rfl
      have m2 := mb.cell (i := 2) (v := .string m.s) rfl
      clear k1 k2 k3 H0 K0 RF MF mb
      have r0 := (unhide H3).cell (i := 0) (v := .int .i64 0) rfl
      have r1 := (unhide H3).cell (i := 1) (v := .int .i64 0) rfl
      have r2 := (unhide H3).cell (i := 2) (v := .string ⟨#[]⟩) rfl
      have g0 := (unhide H3).froz 0
      have g1 := (unhide H3).froz 1
      have g2 := (unhide H3).froz 2
      go_wp2
      exact bodyPost_ret (mf_res (p := 2) (u := 3) rfl _ _ w.heap.size m.c m.t m.s rfl _ _ _ (unhide H3)) rfl ⟨by rw [(unhide HE).1, (unhide HE).2]; rfl, unhide HF _ _ _ _ (unhide K3)⟩
  · rw [if_neg hz] at hE hM
    have HE : Hid (E = e0 ∧ M = Mf.z) := hide ⟨hE, hM⟩
    have hne : (e0 != 0) = true := by rw [bne_iff_ne]; exact hz
    clear hE hM hz
    go_enter Tryz.func22, Tryz.ntmps22
    go_wp2_with fail
    refine (unhide RF).mono ?_
    rintro e w1 ⟨rfl, k1⟩
    have H3 := hide ((unhide H0).kp k1 (by simp))
    have K3 := hide ((unhide K0).trans k1 (by simp))
    clear k1 H0 K0 RF MF
    have r0 := (unhide H3).cell (i := 0) (v := .int .i64 0) rfl
    have r1 := (unhide H3).cell (i := 1) (v := .int .i64 0) rfl
    have r2 := (unhide H3).cell (i := 2) (v := .string ⟨#[]⟩) rfl
    have g0 := (unhide H3).froz 0
    have g1 := (unhide H3).froz 1
    have g2 := (unhide H3).froz 2
    go_wp2
    exact bodyPost_ret (mf_res (p := 2) (u := 3) rfl _ _ w.heap.size 0 0 ⟨#[]⟩ rfl _ _ _ (unhide H3)) rfl ⟨by rw [(unhide HE).1, (unhide HE).2]; rfl, unhide HF _ 0 0 ⟨#[]⟩ (unhide K3)⟩
set_option maxHeartbeats 1000000 in
set_option maxRecDepth 100000 in
theorem ahead_any {w0 w : World} {p : Nat} {d : Dk} (h : OwnD w0 w p d) (hT : TabW w0) (c : Int) :
    Calls Tryz.prog 29 #[.pointer (some ⟨p, 0, none⟩), .int .i64 c] w fun e w' => e = .returned (.int .i64 (d.ahE c)) ∧ Kp [] w w' := by
  have RM := hide (readMf_any h hT)
  have hA : d.ahE c = if d.laE = 0 ∨ d.laE = 5 then (if c ≤ d.laM.c then 220 else 0) else d.laE := rfl
  generalize d.ahE c = A at *
  generalize d.laE = E at *
  generalize d.laM = M at *
  obtain ⟨mc, mt, ms⟩ := M
  clear h hT
  dsimp only at hA RM
  have HN : Hid (∀ w1, Kp [] w w1 → Kp [] w (w1.alloc (.cells #[.int .i64 mc, .int .i64 mt, .string ms] 64)) ∧ (w1.alloc (.cells #[.int .i64 mc, .int .i64 mt, .string ms] 64)).cell? ⟨w1.heap.size, 0, none⟩ = some (.int .i64 mc)) := hide (fun w1 k1 => ⟨k1.trans (Kp.alloc _ _) (by simp), (CBox.new w1 #[.int .i64 mc, .int .i64 mt, .string ms] 64).cell rfl⟩)
  by_cases hE : E = 0 ∨ E = 5
  · rw [if_pos hE] at hA
    by_cases hc : c ≤ mc
    · rw [if_pos hc] at hA
      subst hA
      rcases hE with rfl | rfl
      all_goals
        go_enter Tryz.func29, Tryz.ntmps29
        go_wp2_with fail
        refine (unhide RM).mono ?_
        rintro e w1 ⟨rfl, k1⟩
        obtain ⟨k2, c2⟩ := unhide HN w1 k1
        have K2 := hide k2
        clear k1 k2
        go_wp2
        go_ret
        exact ⟨rfl, unhide K2⟩
    · rw [if_neg hc] at hA
      subst hA
      rcases hE with rfl | rfl
      all_goals
        go_enter Tryz.func29, Tryz.ntmps29
        go_wp2_with fail
        refine (unhide RM).mono ?_
        rintro e w1 ⟨rfl, k1⟩
        obtain ⟨k2, c2⟩ := unhide HN w1 k1
        have K2 := hide k2
        clear k1 k2
        go_wp2
        go_ret
        exact ⟨rfl, unhide K2⟩
  · rw [if_neg hE] at hA
    subst hA
    have n0 : (A != 0) = true := by rw [bne_iff_ne]; exact fun e => hE (Or.inl e)
    have n5 : (A != 5) = true := by rw [bne_iff_ne]; exact fun e => hE (Or.inr e)
    clear hE
    go_enter Tryz.func29, Tryz.ntmps29
    go_wp2_with fail
    refine (unhide RM).mono ?_
    rintro e w1 ⟨rfl, k1⟩
    obtain ⟨k2, c2⟩ := unhide HN w1 k1
    have K2 := hide k2
    clear k1 k2
    go_wp2
    go_ret
    exact ⟨rfl, unhide K2⟩
set_option maxHeartbeats 1000000 in
set_option maxRecDepth 100000 in
theorem latest_any {w0 w : World} {p : Nat} {d : Dk} (h : OwnD w0 w p d) (hT : TabW w0) :
    Calls Tryz.prog 9 #[.pointer (some ⟨p, 0, none⟩)] w fun e w' => e = .returned (.tuple #[.int .i64 d.laM.c, .int .i64 d.laM.t, .string d.laM.s, .int .i64 d.laE]) ∧ Kp [] w w' := by
  have RM := hide (readMf_any h hT)
  generalize d.laE = E at *
  generalize d.laM = M at *
  obtain ⟨mc, mt, ms⟩ := M
  clear h hT
  dsimp only at RM ⊢
  go_enter Tryz.func9, Tryz.ntmps9
  go_wp2_with fail
  refine (unhide RM).mono ?_
  rintro e w1 ⟨rfl, k1⟩
  have k2 := k1.trans (Kp.alloc w1 (.cells #[.int .i64 mc, .int .i64 mt, .string ms] 64)) (by simp)
  have mb := CBox.new w1 #[.int .i64 mc, .int .i64 mt, .string ms] 64
  have m0 := mb.cell (i := 0) (v := .int .i64 mc) rfl
  have m1 := mb.cell (i := 1) (v := .int .i64 mt) rfl
  have m2 := mb.cell (i := 2) (v := .string ms) rfl
  have K2 := hide k2
  clear k1 k2 mb
  go_wp2
  go_quiet (fail)
  go_wp2
  (try simp only [Exit.inBlock, Exit.then])
  refine bodyPost_ret (results_tmp4 rfl _ _ _) rfl ?_
  exact ⟨rfl, (unhide K2).trans (Kp.drewQ _ nq) (by simp)⟩
end Go.Proofs.YtdmckgcbmbhmmaaGreatDoor
