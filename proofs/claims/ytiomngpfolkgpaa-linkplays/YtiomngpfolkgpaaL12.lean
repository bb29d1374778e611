/-
  Links: bytes as data packets.
  A statement whose order is drawn, and whose last operation (a store) waits for all others: what is read ahead of it may be taken first, though the store changes what was read. Of no program.
-/
import Derived.Test.YtiomngpfolkgpaaL11
import Derived.WalkKit
import Derived.OrdersHeld
namespace Go.Proofs.Ytiomngpfolkgpaa
open Go.RowKit Lk

theorem al_cells (W : World) (o : Obj) : Kp [] W (W.alloc o) := Kp.alloc W o
set_option maxHeartbeats 8000000 in
set_option maxRecDepth 100000 in
theorem lrD_any (b : ByteArray) (w : World) (hb : b.size ≤ 9223372036854775807) :
    Calls Try.prog 30 #[.string b] w fun e w' => e = .returned (.tuple #[.agg #[.int .i64 (dEp (lrD b)), .int .i64 (dNo (lrD b)), .string (dTx (lrD b))], .bool (lrD b).isSome]) ∧ Below w.heap.size w w' := by
  have DE := hide (decode_any b (w.alloc (.cells #[.int .i64 0, .int .i64 0, .string ⟨#[]⟩] 72)) hb)
  have B0 := CBox.new w #[.int .i64 0, .int .i64 0, .string ⟨#[]⟩] 72
  have K0 := hide (Kp.alloc w (.cells #[.int .i64 0, .int .i64 0, .string ⟨#[]⟩] 72))
  have HF : Hid (∀ W e n t, Kp [] w W → Below w.heap.size w (((W.setCell ⟨w.heap.size, 0, none⟩ (.int .i64 e)).setCell ⟨w.heap.size, 1, none⟩ (.int .i64 n)).setCell ⟨w.heap.size, 2, none⟩ (.string t))) := hide (fun W e n t hk => (hk.trans (set3 W w.heap.size _ _ _) (by simp)).below (Nat.le_refl _) (by simp))
  have H0 := hide B0
  have EQ := fun p c W => eqF 9998 p c 0 0 W
  obtain ⟨l, hl⟩ : ∃ l, l = (decS b.data.toList).1 := ⟨_, rfl⟩
  obtain ⟨p, hp⟩ : ∃ p, p = (decS b.data.toList).2.1 := ⟨_, rfl⟩
  obtain ⟨c, hc⟩ : ∃ c, c = (decS b.data.toList).2.2 := ⟨_, rfl⟩
  have hpc : c = 0 → p = 0 := fun h => by rw [hp]; exact decS_at _ (by rw [← hc]; exact h)
  have hR : lrD b = if c = 0 then dataOf l else none := by unfold lrD; rw [← hc, ← hl]
  rw [← hl, ← hp, ← hc] at DE
  obtain ⟨R, hRR⟩ : ∃ R, R = lrD b := ⟨_, rfl⟩
  rw [← hRR] at hR ⊢
  clear hl hp hc hRR hb B0
  by_cases hc0 : c = 0
  · have hp0 := hpc hc0
    subst hc0 hp0
    rw [if_pos rfl] at hR
    by_cases h4 : l.length = 4
    · obtain ⟨x, y, z, d, rfl⟩ : ∃ x y z d, l = [x, y, z, d] := by
        match l, h4 with
        | [x, y, z, d], _ => exact ⟨x, y, z, d, rfl⟩
      have HE : Hid (∀ W v, OwnsI (w.heap.size + 1) W v [x, y, z, d] → ∃ bb cp, v = .slice (some ⟨bb, 0, none⟩) 4 cp ∧ 4 ≤ cp ∧ ItemsAt W (some ⟨bb, 0, none⟩) [x, y, z, d]) := hide (fun W v h => by
        obtain ⟨_, ⟨_, h0⟩ | ⟨g, cp, cur, rfl, _, _, hn, _⟩⟩ := id h
        · simp at h0
        · obtain ⟨ad, cp', e, ha⟩ := h.items
          injection e with e1 e2 e3
          subst e1
          exact ⟨g, cp, rfl, by simpa using hn, ha⟩)
      have H3A : Hid (∀ W ad, ItemsAt W ad [x, y, z, d] → ItemsAt W ad [x, y, z]) := hide (fun W ad h _ => by
        obtain ⟨b, off, e, hlt, hc⟩ := h (by simp)
        refine ⟨b, off, e, hlt, fun i hi => ?_⟩
        have := hc i (by simp at hi ⊢; omega)
        match i, hi, this with
        | 0, _, this => exact this
        | 1, _, this => exact this
        | 2, _, this => exact this)
      have HHD := hide (fun ad cp W h => lHeadB_any ad cp x y z 0 1073741824 W h)
      have EQ' : ∀ W, (Op.equalIn 10000 92 (.agg #[.int .i64 0, .int .i64 0]) (.agg #[.int .i64 0, .int .i64 0])).run Try.prog W = .ok true W := fun W => EQ 0 0 W
      have HR := hide (show R = if headB [x, y, z] 0 1073741824 && (d.t && decide (d.s.size ≤ 60000)) then some (y.n, z.n, d.s) else none from hR)
      clear hR EQ hpc h4
      go_enter Try.func30, Try.ntmps30
      go_wp2_with fail
      refine (unhide DE).mono ?_
      rintro e w1 ⟨v, rfl, h1, k1⟩
      rw [World.size_alloc] at h1 k1
      obtain ⟨bb, cp, rfl, hcp, ha⟩ := unhide HE w1 v h1
      have HA := hide ha
      clear ha
      have h1' := (unhide H0).kp (F := []) (Kp.ofBelow (by rw [World.size_alloc]; exact k1)) (by simp)
      have k1' : Kp [] w w1 := (unhide K0).trans (Kp.ofBelow (by rw [World.size_alloc]; exact k1)) (by simp)
      clear h1 k1 H0 K0 DE HE
      go_upto_region 2 with fail
      obtain ⟨W2, hW2⟩ : ∃ W2, W2 = w1.alloc (.cells #[.int .i64 0, .int .i64 0] 92) := ⟨_, rfl⟩
      have k2 : Kp [] w1 W2 := by rw [hW2]; exact Kp.alloc _ _
      have fb : CBox w1.heap.size #[.int .i64 0, .int .i64 0] 92 W2 := by rw [hW2]; exact CBox.new _ _ _
      rw [← hW2]
      have f0 := fb.cell (i := 0) (v := .int .i64 0) rfl
      have f1 := fb.cell (i := 1) (v := .int .i64 0) rfl
      have H3 := hide (h1'.kp k2 (by simp))
      have K3 := hide (k1'.trans k2 (by simp))
      clear hW2 fb h1' k1'
      have HC := hide (unhide HHD (some ⟨bb, 0, none⟩) cp W2 (unhide H3A _ _ (items_kp (unhide HA) k2)))
      have HA2 := hide (items_kp (unhide HA) k2)
      clear HA HHD H3A k2
      have hcpi : (3 : Int) ≤ (cp : Int) := by omega
      go_wp2_with fail
      refine (unhide HC).mono ?_
      rintro e w3 ⟨rfl, k3⟩
      have H4 := hide ((unhide H3).kp k3 (by simp))
      have K4 := hide ((unhide K3).trans k3 (by simp))
      have HA4 := hide (items_kp (unhide HA2) k3)
      clear HA2 H3 K3 k3 HC f0 f1
      cases hb : headB [x, y, z] 0 1073741824 with
      | false =>
        rw [hb, Bool.false_and] at HR
        clear HA4 hb
        have r0 := (unhide H4).cell (i := 0) (v := .int .i64 0) rfl
        have r1 := (unhide H4).cell (i := 1) (v := .int .i64 0) rfl
        have r2 := (unhide H4).cell (i := 2) (v := .string ⟨#[]⟩) rfl
        have g0 := (unhide H4).froz 0
        have g1 := (unhide H4).froz 1
        have g2 := (unhide H4).froz 2
        go_wp2
        exact bodyPost_ret (pkt_res (p := 2) (u := 3) rfl _ w3 w.heap.size 0 0 ⟨#[]⟩ rfl _ _ _ (unhide H4)) rfl ⟨by rw [unhide HR]; rfl, unhide HF w3 0 0 ⟨#[]⟩ (unhide K4)⟩
      | true =>
        rw [hb, Bool.true_and] at HR
        clear hb
        obtain ⟨dt, dn, ds⟩ := d
        dsimp only at HR
        obtain ⟨_, _, e, _, hc⟩ := unhide HA4 (by simp)
        injection e with e
        injection e with e1 e2
        subst e1 e2
        have d0 := (hc 3 (by simp)).1
        have d1 := (hc 3 (by simp)).2.1
        have d2 := (hc 3 (by simp)).2.2
        simp only [List.getElem_cons_zero, List.getElem_cons_succ] at d0 d1 d2
        clear hc
        cases dt with
        | false =>
          rw [Bool.false_and] at HR
          go_upto_region 5 with fail
          obtain ⟨W5, hW5⟩ : ∃ W5, W5 = w3.alloc (.cells #[.bool false, .int .i64 dn, .string ds] 84) := ⟨_, rfl⟩
          have k5 : Kp [] w3 W5 := by rw [hW5]; exact Kp.alloc _ _
          have ib : CBox w3.heap.size #[.bool false, .int .i64 dn, .string ds] 84 W5 := by rw [hW5]; exact CBox.new _ _ _
          rw [← hW5]
          have i0 := ib.cell (i := 0) (v := .bool false) rfl
          have i2 := ib.cell (i := 2) (v := .string ds) rfl
          have H5 := hide ((unhide H4).kp k5 (by simp))
          have K5 := hide ((unhide K4).trans k5 (by simp))
          have IB := hide ib
          have HA5 := hide (items_kp (unhide HA4) k5)
          clear hW5 ib k5 H4 K4 HA4 d0 d1 d2
          have r0 := (unhide H5).cell (i := 0) (v := .int .i64 0) rfl
          have r1 := (unhide H5).cell (i := 1) (v := .int .i64 0) rfl
          have r2 := (unhide H5).cell (i := 2) (v := .string ⟨#[]⟩) rfl
          have g0 := (unhide H5).froz 0
          have g1 := (unhide H5).froz 1
          have g2 := (unhide H5).froz 2
          go_wp2
          exact bodyPost_ret (pkt_res (p := 2) (u := 3) rfl _ W5 w.heap.size 0 0 ⟨#[]⟩ rfl _ _ _ (unhide H5)) rfl ⟨by rw [unhide HR]; rfl, unhide HF W5 0 0 ⟨#[]⟩ (unhide K5)⟩
        | true =>
          rw [Bool.true_and] at HR
          by_cases hs : ds.size ≤ 60000
          · rw [decide_eq_true hs, if_pos rfl] at HR
            have hsi : ¬ (60000 : Int) < (ds.size : Int) := by omega
            go_upto_region 5 with fail
            obtain ⟨W5, hW5⟩ : ∃ W5, W5 = w3.alloc (.cells #[.bool true, .int .i64 dn, .string ds] 84) := ⟨_, rfl⟩
            have k5 : Kp [] w3 W5 := by rw [hW5]; exact Kp.alloc _ _
            have ib : CBox w3.heap.size #[.bool true, .int .i64 dn, .string ds] 84 W5 := by rw [hW5]; exact CBox.new _ _ _
            rw [← hW5]
            have i0 := ib.cell (i := 0) (v := .bool true) rfl
            have i2 := ib.cell (i := 2) (v := .string ds) rfl
            have H5 := hide ((unhide H4).kp k5 (by simp))
            have K5 := hide ((unhide K4).trans k5 (by simp))
            have IB := hide ib
            have HA5 := hide (items_kp (unhide HA4) k5)
            clear hW5 ib k5 H4 K4 HA4 d0 d1 d2
            have r0 := (unhide H5).cell (i := 0) (v := .int .i64 0) rfl
            have r1 := (unhide H5).cell (i := 1) (v := .int .i64 0) rfl
            have r2 := (unhide H5).cell (i := 2) (v := .string ⟨#[]⟩) rfl
            have g0 := (unhide H5).froz 0
            have g1 := (unhide H5).froz 1
            have g2 := (unhide H5).froz 2
            obtain ⟨_, _, e, _, hc⟩ := unhide HA5 (by simp)
            injection e with e
            injection e with e1 e2
            subst e1 e2
            have c1 := (hc 1 (by simp)).2.1
            have c2 := (hc 2 (by simp)).2.1
            simp only [List.getElem_cons_zero, List.getElem_cons_succ, Nat.one_mul] at c1 c2
            clear hc HA5
            go_upto_region 7 with fail
            go_region
            all_goals (go_wp2; exact bodyPost_ret (pkt_res (p := 2) (u := 3) rfl _ W5.drew w.heap.size y.n z.n ds rfl _ _ _ ((unhide H5).kp (Kp.drew _) (by simp))) rfl ⟨by rw [unhide HR]; rfl, unhide HF W5.drew y.n z.n ds ((unhide K5).trans (Kp.drew _) (by simp))⟩)
          · rw [decide_eq_false hs] at HR
            have hsi : (60000 : Int) < (ds.size : Int) := by omega
            go_upto_region 5 with fail
            obtain ⟨W5, hW5⟩ : ∃ W5, W5 = w3.alloc (.cells #[.bool true, .int .i64 dn, .string ds] 84) := ⟨_, rfl⟩
            have k5 : Kp [] w3 W5 := by rw [hW5]; exact Kp.alloc _ _
            have ib : CBox w3.heap.size #[.bool true, .int .i64 dn, .string ds] 84 W5 := by rw [hW5]; exact CBox.new _ _ _
            rw [← hW5]
            have i0 := ib.cell (i := 0) (v := .bool true) rfl
            have i2 := ib.cell (i := 2) (v := .string ds) rfl
            have H5 := hide ((unhide H4).kp k5 (by simp))
            have K5 := hide ((unhide K4).trans k5 (by simp))
            have IB := hide ib
            have HA5 := hide (items_kp (unhide HA4) k5)
            clear hW5 ib k5 H4 K4 HA4 d0 d1 d2
            have r0 := (unhide H5).cell (i := 0) (v := .int .i64 0) rfl
            have r1 := (unhide H5).cell (i := 1) (v := .int .i64 0) rfl
            have r2 := (unhide H5).cell (i := 2) (v := .string ⟨#[]⟩) rfl
            have g0 := (unhide H5).froz 0
            have g1 := (unhide H5).froz 1
            have g2 := (unhide H5).froz 2
            go_wp2
            exact bodyPost_ret (pkt_res (p := 2) (u := 3) rfl _ W5 w.heap.size 0 0 ⟨#[]⟩ rfl _ _ _ (unhide H5)) rfl ⟨by rw [unhide HR]; rfl, unhide HF W5 0 0 ⟨#[]⟩ (unhide K5)⟩
    · have HR : Hid (R = none) := hide (by
        rw [hR]
        unfold dataOf
        split
        · exact absurd rfl h4
        · rfl)
      have HE : Hid (∀ W v, OwnsI (w.heap.size + 1) W v l → ∃ ad cp, v = .slice ad l.length cp) := hide (fun W v h => h.form)
      have EQ' : ∀ W, (Op.equalIn 10000 92 (.agg #[.int .i64 0, .int .i64 0]) (.agg #[.int .i64 0, .int .i64 0])).run Try.prog W = .ok true W := fun W => EQ 0 0 W
      have h4i : ((l.length : Int) != 4) = true := by rw [bne_iff_ne]; omega
      clear hR EQ hpc h4
      go_enter Try.func30, Try.ntmps30
      go_wp2_with fail
      refine (unhide DE).mono ?_
      rintro e w1 ⟨v, rfl, h1, k1⟩
      rw [World.size_alloc] at h1 k1
      obtain ⟨ad, cp, rfl⟩ := unhide HE w1 v h1
      have h1' := (unhide H0).kp (F := []) (Kp.ofBelow (by rw [World.size_alloc]; exact k1)) (by simp)
      have k1' : Kp [] w w1 := (unhide K0).trans (Kp.ofBelow (by rw [World.size_alloc]; exact k1)) (by simp)
      clear h1 k1 H0 K0 DE HE
      go_upto_region 2 with fail
      obtain ⟨W2, hW2⟩ : ∃ W2, W2 = w1.alloc (.cells #[.int .i64 0, .int .i64 0] 92) := ⟨_, rfl⟩
      have k2 : Kp [] w1 W2 := by rw [hW2]; exact Kp.alloc _ _
      have fb : CBox w1.heap.size #[.int .i64 0, .int .i64 0] 92 W2 := by rw [hW2]; exact CBox.new _ _ _
      rw [← hW2]
      have f0 := fb.cell (i := 0) (v := .int .i64 0) rfl
      have f1 := fb.cell (i := 1) (v := .int .i64 0) rfl
      have H3 := hide (h1'.kp k2 (by simp))
      have K3 := hide (k1'.trans k2 (by simp))
      clear hW2 fb h1' k1'
      clear k2
      have r0 := (unhide H3).cell (i := 0) (v := .int .i64 0) rfl
      have r1 := (unhide H3).cell (i := 1) (v := .int .i64 0) rfl
      have r2 := (unhide H3).cell (i := 2) (v := .string ⟨#[]⟩) rfl
      have g0 := (unhide H3).froz 0
      have g1 := (unhide H3).froz 1
      have g2 := (unhide H3).froz 2
      go_wp2
      exact bodyPost_ret (pkt_res (p := 2) (u := 3) rfl _ W2 w.heap.size 0 0 ⟨#[]⟩ rfl _ _ _ (unhide H3)) rfl ⟨by rw [unhide HR]; rfl, unhide HF W2 0 0 ⟨#[]⟩ (unhide K3)⟩
  · have HR : Hid (R = none) := hide (by rw [hR, if_neg hc0])
    have HE : Hid (∀ W v, OwnsI (w.heap.size + 1) W v l → ∃ ad cp, v = .slice ad l.length cp) := hide (fun W v h => h.form)
    have EQ' : ∀ W, (Op.equalIn 10000 92 (.agg #[.int .i64 p, .int .i64 c]) (.agg #[.int .i64 0, .int .i64 0])).run Try.prog W = .ok false W := fun W => by
      rw [EQ p c W, beq_eq_false_iff_ne.2 hc0, Bool.and_false]
    clear hR EQ hpc hc0
    go_enter Try.func30, Try.ntmps30
    go_wp2_with fail
    refine (unhide DE).mono ?_
    rintro e w1 ⟨v, rfl, h1, k1⟩
    rw [World.size_alloc] at h1 k1
    obtain ⟨ad, cp, rfl⟩ := unhide HE w1 v h1
    have h1' := (unhide H0).kp (F := []) (Kp.ofBelow (by rw [World.size_alloc]; exact k1)) (by simp)
    have k1' : Kp [] w w1 := (unhide K0).trans (Kp.ofBelow (by rw [World.size_alloc]; exact k1)) (by simp)
    clear h1 k1 H0 K0 DE HE
    go_upto_region 2 with fail
    obtain ⟨W2, hW2⟩ : ∃ W2, W2 = w1.alloc (.cells #[.int .i64 p, .int .i64 c] 92) := ⟨_, rfl⟩
    have k2 : Kp [] w1 W2 := by rw [hW2]; exact Kp.alloc _ _
    have fb : CBox w1.heap.size #[.int .i64 p, .int .i64 c] 92 W2 := by rw [hW2]; exact CBox.new _ _ _
    rw [← hW2]
    have f0 := fb.cell (i := 0) (v := .int .i64 p) rfl
    have f1 := fb.cell (i := 1) (v := .int .i64 c) rfl
    have H3 := hide (h1'.kp k2 (by simp))
    have K3 := hide (k1'.trans k2 (by simp))
    clear hW2 fb h1' k1'
    clear k2
    have r0 := (unhide H3).cell (i := 0) (v := .int .i64 0) rfl
    have r1 := (unhide H3).cell (i := 1) (v := .int .i64 0) rfl
    have r2 := (unhide H3).cell (i := 2) (v := .string ⟨#[]⟩) rfl
    have g0 := (unhide H3).froz 0
    have g1 := (unhide H3).froz 1
    have g2 := (unhide H3).froz 2
    go_wp2
    exact bodyPost_ret (pkt_res (p := 2) (u := 3) rfl _ W2 w.heap.size 0 0 ⟨#[]⟩ rfl _ _ _ (unhide H3)) rfl ⟨by rw [unhide HR]; rfl, unhide HF W2 0 0 ⟨#[]⟩ (unhide K3)⟩
end Go.Proofs.Ytiomngpfolkgpaa
namespace Go.Proofs.Ytiomngpfolkgpaa
open Go.RowKit

section
variable {P : Program} {ops : Array Oper} {Q : Exit → Act → World → Prop} {md : Region.Mode} {S : World → Prop} {late : Nat}
/-- As wpAnyH; behind the late operation the condition is not asked for. -/
def wpAnyL (P : Program) (md : Region.Mode) (ops : Array Oper) (Q : Exit → Act → World → Prop) (S : World → Prop) (late : Nat) : Nat → Array Bool → Act → World → Prop
  | 0, listed, a, w => Region.ready md ops listed = [] ∧ Q .normal a w
  | fuel + 1, listed, a, w =>
    (Region.ready md ops listed = [] → Q .normal a w) ∧
    ∀ i ∈ Region.ready md ops listed, wpOp P ops Q i (fun a' w' => (i = late ∨ S w') ∧ wpAnyL P md ops Q S late fuel (listed.setIfInBounds i true) a' w') a w
theorem wpAny_of_late : ∀ (fuel : Nat) (listed : Array Bool) (a : Act) (w : World), wpAnyL P md ops Q S late fuel listed a w → wpAny P md ops Q fuel listed a w
  | 0, _, _, _, h => h
  | fuel + 1, _, _, _, h => ⟨h.1, fun i hi => wpOp_mono (fun a' w' h' => wpAny_of_late fuel _ a' w' h'.2) (h.2 i hi)⟩
/-- Does the late operation wait for number i? -/
def waits (md : Region.Mode) (ops : Array Oper) (late i : Nat) : Bool := match ops[late]? with
  | some o => o.after.any fun e => Region.binds md e && e.on == i
  | none => false
theorem waits_spec {i : Nat} {o : Oper} (ho : ops[late]? = some o) (h : waits md ops late i = true) : ∃ e ∈ o.after, Region.binds md e = true ∧ e.on = i := by
  unfold waits at h
  rw [ho] at h
  simp only [Array.any_eq_true] at h
  obtain ⟨j, hj, hb⟩ := h
  rw [Bool.and_eq_true, beq_iff_eq] at hb
  exact ⟨_, Array.getElem_mem hj, hb.1, hb.2⟩
theorem wpAnyL_first {i : Nat} {oi : Oper} {v : Value} (hi : ops[i]? = some oi) (hw : waits md ops late i = true) (hsel : ∀ (j : Nat) (o : Oper) cs b, ops[j]? = some o → o.op ≠ .select cs b)
    (hQ : ∀ c a w, Q (.panic c) (a.put oi.dst v) w → Q (.panic c) a w) :
    ∀ (fuel : Nat) (listed : Array Bool) (a : Act) (w : World),
      (∀ j oj, ops[j]? = some oj → j ≠ i → listed.getD j true = false → (∀ e ∈ oj.after, Region.binds md e = true → e.on ≠ i) → oi.apart ops oj = true) →
      i ∈ Region.ready md ops listed → YieldsIf P ops S oi v a → S w →
      wpAnyL P md ops Q S late fuel (listed.setIfInBounds i true) (a.put oi.dst v) w → wpAnyL P md ops Q S late (fuel + 1) listed a w := by
  intro fuel
  induction fuel with
  | zero =>
    intro listed a w _ hr hy hS H
    refine ⟨fun h => (by rw [h] at hr; cases hr), fun j hj => ?_⟩
    by_cases hji : j = i
    · subst hji; exact hy.wpOp hi hS ⟨Or.inr hS, H⟩
    · have := ready_mono hj hji
      rw [H.1] at this
      cases this
  | succ fuel ih =>
    intro listed a w hfree hr hy hS H
    refine ⟨fun h => (by rw [h] at hr; cases hr), fun j hj => ?_⟩
    by_cases hji : j = i
    · subst hji; exact hy.wpOp hi hS ⟨Or.inr hS, H⟩
    · have h1 := H.2 j (ready_mono hj hji)
      obtain ⟨hjun, oj, hoj, hall⟩ := mem_ready.1 hj
      have hnot : ∀ e ∈ oj.after, Region.binds md e = true → e.on ≠ i := fun e he hb heq => by
        have h1 := hall e he hb
        have h0 := (mem_ready.1 hr).1
        rw [heq] at h1
        rcases Nat.lt_or_ge i listed.size with h' | h'
        · simp [h'] at h0 h1; rw [h0] at h1; cases h1
        · simp [Array.getElem?_eq_none h'] at h1
      have hjl : j ≠ late := by
        rintro rfl
        obtain ⟨e, he, hb, hon⟩ := waits_spec hoj hw
        exact hnot e he hb hon
      have h1' : wpOp P ops Q j (fun a' w' => S w' ∧ wpAnyL P md ops Q S late fuel ((listed.setIfInBounds i true).setIfInBounds j true) a' w') (a.put oi.dst v) w := wpOp_mono (fun a' w' h => ⟨h.1.resolve_left hjl, h.2⟩) h1
      have h2 := wpOp_putIf hoj (hfree j oj hoj hji hjun hnot) (fun cs b => hsel i oi cs b hi) (fun cs b => hsel j oj cs b hoj) hQ hy h1'
      have hfree' : ∀ k ok, ops[k]? = some ok → k ≠ i → (listed.setIfInBounds j true).getD k true = false →
          (∀ e ∈ ok.after, Region.binds md e = true → e.on ≠ i) → oi.apart ops ok = true := fun k ok hk hki hun hno => by
        refine hfree k ok hk hki ?_ hno
        by_cases hjk : j = k
        · subst hjk; exact hjun
        · rw [getD_set_ne true hjk] at hun; exact hun
      refine wpOp_mono (fun a' w' h3 => ⟨Or.inr h3.2.1, ih (listed.setIfInBounds j true) a' w' hfree' (ready_mono hr (Ne.symm hji)) h3.1 h3.2.1 ?_⟩) h2
      rw [Array.setIfInBounds_comm _ _ hji]
      exact h3.2.2
/-- Take number i first. -/
theorem wpAnyL_take {i : Nat} {oi : Oper} {v : Value} {fuel : Nat} {listed : Array Bool} {a : Act} {w : World} (hi : ops[i]? = some oi)
    (hw : waits md ops late i = true) (hs : Region.noSelect ops = true) (hf : Region.free md ops listed i = true) (hr : (Region.ready md ops listed).contains i = true)
    (hQ : ∀ c a w, Q (.panic c) (a.put oi.dst v) w → Q (.panic c) a w) (hy : YieldsIf P ops S oi v a) (hS : S w)
    (h : wpAnyL P md ops Q S late fuel (listed.setIfInBounds i true) (a.put oi.dst v) w) : wpAnyL P md ops Q S late (fuel + 1) listed a w :=
  wpAnyL_first hi hw (Region.noSelect_spec hs) hQ fuel listed a w (Region.free_spec hi hf) (by simpa using hr) hy hS h
/-- Just one may come up. -/
theorem wpAnyL_one {i : Nat} {o : Oper} {fuel : Nat} {listed : Array Bool} {a : Act} {w : World} (ho : ops[i]? = some o) (hr : Region.ready md ops listed = [i])
    (h : ∀ K : Act → World → Prop, (∀ a' w', (i = late ∨ S w') → wpAnyL P md ops Q S late fuel (listed.setIfInBounds i true) a' w' → K a' w') → if Region.wanted o (yielded ops a.tmps) = true then Oper.wp P o a w K Q else K (a.put o.dst undef) w) : wpAnyL P md ops Q S late (fuel + 1) listed a w := by
  refine ⟨fun h0 => (by rw [hr] at h0; cases h0), fun j hj => ?_⟩
  rw [hr, List.mem_singleton] at hj
  subst hj
  have := h (fun a' w' => (j = late ∨ S w') ∧ wpAnyL P md ops Q S late fuel (listed.setIfInBounds j true) a' w') (fun a' w' h1 h2 => ⟨h1, h2⟩)
  unfold wpOp
  rw [ho]
  dsimp only
  split
  · rename_i hc
    rw [if_pos hc] at this
    exact Or.inl this
  · rename_i hc
    rw [if_neg hc] at this
    exact this
/-- One of two may come up. -/
theorem wpAnyL_two {i j : Nat} {o o' : Oper} {fuel : Nat} {listed : Array Bool} {a : Act} {w : World} (ho : ops[i]? = some o) (ho' : ops[j]? = some o') (hr : Region.ready md ops listed = [i, j])
    (h : ∀ K : Act → World → Prop, (∀ a' w', (i = late ∨ S w') → wpAnyL P md ops Q S late fuel (listed.setIfInBounds i true) a' w' → K a' w') → if Region.wanted o (yielded ops a.tmps) = true then Oper.wp P o a w K Q else K (a.put o.dst undef) w)
    (h' : ∀ K : Act → World → Prop, (∀ a' w', (j = late ∨ S w') → wpAnyL P md ops Q S late fuel (listed.setIfInBounds j true) a' w' → K a' w') → if Region.wanted o' (yielded ops a.tmps) = true then Oper.wp P o' a w K Q else K (a.put o'.dst undef) w) : wpAnyL P md ops Q S late (fuel + 1) listed a w := by
  have one : ∀ (n : Nat) (x : Oper), ops[n]? = some x → (∀ K : Act → World → Prop, (∀ a' w', (n = late ∨ S w') → wpAnyL P md ops Q S late fuel (listed.setIfInBounds n true) a' w' → K a' w') → if Region.wanted x (yielded ops a.tmps) = true then Oper.wp P x a w K Q else K (a.put x.dst undef) w) → wpOp P ops Q n (fun a' w' => (n = late ∨ S w') ∧ wpAnyL P md ops Q S late fuel (listed.setIfInBounds n true) a' w') a w := fun n x hx hh => by
    have := hh (fun a' w' => (n = late ∨ S w') ∧ wpAnyL P md ops Q S late fuel (listed.setIfInBounds n true) a' w') (fun a' w' h1 h2 => ⟨h1, h2⟩)
    unfold wpOp
    rw [hx]
    dsimp only
    split
    · rename_i hc
      rw [if_pos hc] at this
      exact Or.inl this
    · rename_i hc
      rw [if_neg hc] at this
      exact this
  refine ⟨fun h0 => (by rw [hr] at h0; cases h0), fun n hn => ?_⟩
  rw [hr] at hn
  rcases List.mem_cons.1 hn with rfl | hn
  · exact one _ _ ho h
  · rw [List.mem_singleton] at hn
    subst hn
    exact one _ _ ho' h'
theorem wpAnyL_done {listed : Array Bool} {a : Act} {w : World} (hr : Region.ready md ops listed = []) (h : Q .normal a w) : ∀ fuel, wpAnyL P md ops Q S late fuel listed a w
  | 0 => ⟨hr, h⟩
  | _ + 1 => ⟨fun _ => h, by rw [hr]; simp⟩
theorem wp_region_late (S : World → Prop) (late : Nat) {id : Nat} {a : Act} {w : World} (hm : P.follows .mixedOrders = true)
    (h : wpAnyL P .any ops Q S late ops.size (Array.replicate ops.size false) a w.drew) : (Code.region id ops true).wp P Q a w := wp_region_any hm (wpAny_of_late _ _ _ _ h)
end
end Go.Proofs.Ytiomngpfolkgpaa
