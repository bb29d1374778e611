/-
  Links: bytes as packets.
  Links: bytes as data packets.
-/
import Derived.Test.YtjacedlfkimlhaaLk08
namespace Go.Proofs.Ytjacedlfkimlhaa
open Go.RowKit Lk

theorem al_set2 (w1 : World) (cs : Array Value) (t : TypeId) (x y : Value) : Kp [] w1 (((w1.alloc (.cells cs t)).setCell ⟨w1.heap.size, 0, none⟩ x).setCell ⟨w1.heap.size, 1, none⟩ y) :=
  ((Kp.alloc w1 _).trans (Kp.set _ _ _ _) (by simp)).trans (Kp.set _ _ _ _) (by simp)
def aEp (o : Option (Int × Int)) : Int := match o with | none => 0 | some p => p.1
def aNo (o : Option (Int × Int)) : Int := match o with | none => 0 | some p => p.2
def dEp (o : Option (Int × Int × ByteArray)) : Int := match o with | none => 0 | some p => p.1
def dNo (o : Option (Int × Int × ByteArray)) : Int := match o with | none => 0 | some p => p.2.1
def dTx (o : Option (Int × Int × ByteArray)) : ByteArray := match o with | none => ⟨#[]⟩ | some p => p.2.2
/-- A result that lies in a packet's box, behind its store. -/
theorem pkt_res {fn : Func} {p u : Tmp} (h : fn.results = #[.cell p 77, .tmp u]) (tmps : Array Value) (W : World) (g : Nat) (e n : Int) (t : ByteArray) (hp : tmps.getD p undef = .pointer (some ⟨g, 0, none⟩)) (a b c : Value) (hb : CBox g #[a, b, c] 77 W) :
    (results fn tmps).run Try.prog (((W.setCell ⟨g, 0, none⟩ (.int .i64 e)).setCell ⟨g, 1, none⟩ (.int .i64 n)).setCell ⟨g, 2, none⟩ (.string t)) = .ok (.tuple #[.agg #[.int .i64 e, .int .i64 n, .string t], tmps.getD u undef]) (((W.setCell ⟨g, 0, none⟩ (.int .i64 e)).setCell ⟨g, 1, none⟩ (.int .i64 n)).setCell ⟨g, 2, none⟩ (.string t)) :=
  results_row_tmp h tmps _ g 77 #[.int .i64 e, .int .i64 n, .string t] (0, 0) _ hp (((hb.set 0 (.int .i64 e)).set 1 (.int .i64 n)).set 2 (.string t)) Try.underlying77 rfl info_pkt
theorem set3 (W : World) (g : Nat) (x y z : Value) : Kp [g] W (((W.setCell ⟨g, 0, none⟩ x).setCell ⟨g, 1, none⟩ y).setCell ⟨g, 2, none⟩ z) :=
  ((Kp.set W g 0 x).trans (Kp.set _ g 1 y) (fun _ h => Or.inl h)).trans (Kp.set _ g 2 z) (fun _ h => Or.inl h)
set_option maxHeartbeats 4000000 in
set_option maxRecDepth 100000 in
theorem lrA_any (b : ByteArray) (w : World) (hb : b.size ≤ 9223372036854775807) :
    Calls Try.prog 30 #[.string b] w fun e w' => e = .returned (.tuple #[.agg #[.int .i64 (aEp (lrA b)), .int .i64 (aNo (lrA b)), .string ⟨#[]⟩], .bool (lrA b).isSome]) ∧ Below w.heap.size w w' := by
  have DE := hide (decode_any b (w.alloc (.cells #[.int .i64 0, .int .i64 0, .string ⟨#[]⟩] 77)) hb)
  have B0 := CBox.new w #[.int .i64 0, .int .i64 0, .string ⟨#[]⟩] 77
  have K0 := hide (Kp.alloc w (.cells #[.int .i64 0, .int .i64 0, .string ⟨#[]⟩] 77))
  have HF : Hid (∀ W e n t, Kp [] w W → Below w.heap.size w (((W.setCell ⟨w.heap.size, 0, none⟩ (.int .i64 e)).setCell ⟨w.heap.size, 1, none⟩ (.int .i64 n)).setCell ⟨w.heap.size, 2, none⟩ (.string t))) := hide (fun W e n t hk => (hk.trans (set3 W w.heap.size _ _ _) (by simp)).below (Nat.le_refl _) (by simp))
  have H0 := hide B0
  have EQ := fun p c W => eqF 9998 p c 0 0 W
  obtain ⟨l, hl⟩ : ∃ l, l = (decS b.data.toList).1 := ⟨_, rfl⟩
  obtain ⟨p, hp⟩ : ∃ p, p = (decS b.data.toList).2.1 := ⟨_, rfl⟩
  obtain ⟨c, hc⟩ : ∃ c, c = (decS b.data.toList).2.2 := ⟨_, rfl⟩
  have hpc : c = 0 → p = 0 := fun h => by rw [hp]; exact decS_at _ (by rw [← hc]; exact h)
  have hR : lrA b = if c = 0 then ackOf l else none := by unfold lrA; rw [← hc, ← hl]
  rw [← hl, ← hp, ← hc] at DE
  obtain ⟨R, hRR⟩ : ∃ R, R = lrA b := ⟨_, rfl⟩
  rw [← hRR] at hR ⊢
  clear hl hp hc hRR hb B0
  by_cases hc0 : c = 0
  · have hp0 := hpc hc0
    subst hc0 hp0
    rw [if_pos rfl] at hR
    by_cases h3 : l.length = 3
    · obtain ⟨x, y, z, rfl⟩ : ∃ x y z, l = [x, y, z] := by
        match l, h3 with
        | [x, y, z], _ => exact ⟨x, y, z, rfl⟩
      have HE : Hid (∀ W v, OwnsI (w.heap.size + 1) W v [x, y, z] → ∃ ad cp, v = .slice ad 3 cp ∧ ItemsAt W ad [x, y, z]) := hide (fun W v h => h.items)
      have HHD := hide (fun ad cp W h => lHeadB_any ad cp x y z 1 1073741825 W h)
      have EQ' : ∀ W, (Op.equalIn 10000 97 (.agg #[.int .i64 0, .int .i64 0]) (.agg #[.int .i64 0, .int .i64 0])).run Try.prog W = .ok true W := fun W => EQ 0 0 W
      have hz : R = if headB [x, y, z] 1 1073741825 then some (y.n, z.n) else none := hR
      have HR := hide hz
      clear hz hR EQ hpc h3
      go_enter Try.func30, Try.ntmps30
      go_wp2_with fail
      refine (unhide DE).mono ?_
      rintro e w1 ⟨v, rfl, h1, k1⟩
      rw [World.size_alloc] at h1 k1
      obtain ⟨ad, cp, rfl, ha⟩ := unhide HE w1 v h1
      have HA := hide ha
      have H1 := hide ((unhide H0).kp (F := []) (Kp.ofBelow (by rw [World.size_alloc]; exact k1)) (by simp))
      have K1 : Hid (Kp [] w w1) := hide ((unhide K0).trans (Kp.ofBelow (by rw [World.size_alloc]; exact k1)) (by simp))
      clear h1 k1 ha H0 K0 DE HE
      go_upto_region 2 with fail
      obtain ⟨W2, hW2⟩ : ∃ W2, W2 = w1.alloc (.cells #[.int .i64 0, .int .i64 0] 97) := ⟨_, rfl⟩
      have k2 : Kp [] w1 W2 := by rw [hW2]; exact Kp.alloc _ _
      have fb : CBox w1.heap.size #[.int .i64 0, .int .i64 0] 97 W2 := by rw [hW2]; exact CBox.new _ _ _
      rw [← hW2]
      have f0 := fb.cell (i := 0) (v := .int .i64 0) rfl
      have f1 := fb.cell (i := 1) (v := .int .i64 0) rfl
      have HC := hide (unhide HHD ad cp W2 (items_kp (unhide HA) k2))
      have HA2 := hide (items_kp (unhide HA) k2)
      have H2 := hide ((unhide H1).kp k2 (by simp))
      have K2 := hide ((unhide K1).trans k2 (by simp))
      clear hW2 k2 fb HA H1 K1 HHD
      go_wp2_with fail
      refine (unhide HC).mono ?_
      rintro e w3 ⟨rfl, k3⟩
      have H3 := hide ((unhide H2).kp k3 (by simp))
      have K3 := hide ((unhide K2).trans k3 (by simp))
      have ha := items_kp (unhide HA2) k3
      clear HA2 H2 K2 k3 HC f0 f1
      have r0 := (unhide H3).cell (i := 0) (v := .int .i64 0) rfl
      have r1 := (unhide H3).cell (i := 1) (v := .int .i64 0) rfl
      have r2 := (unhide H3).cell (i := 2) (v := .string ⟨#[]⟩) rfl
      have g0 := (unhide H3).froz 0
      have g1 := (unhide H3).froz 1
      have g2 := (unhide H3).froz 2
      cases hb : headB [x, y, z] 1 1073741825 with
      | false =>
        rw [hb] at HR
        clear ha hb
        go_wp2
        exact bodyPost_ret (pkt_res (p := 2) (u := 3) rfl _ w3 w.heap.size 0 0 ⟨#[]⟩ rfl _ _ _ (unhide H3)) rfl ⟨by rw [unhide HR]; rfl, unhide HF w3 0 0 ⟨#[]⟩ (unhide K3)⟩
      | true =>
        rw [hb] at HR
        obtain ⟨bb, off, rfl, _, hc⟩ := ha (by simp)
        have c1 := (hc 1 (by simp)).2.1
        have c2 := (hc 2 (by simp)).2.1
        simp only [List.getElem_cons_zero, List.getElem_cons_succ, Nat.one_mul] at c1 c2
        clear hc hb ha
        go_upto_region 4 with fail
        go_region
        all_goals (go_wp2; exact bodyPost_ret (pkt_res (p := 2) (u := 3) rfl _ w3.drew w.heap.size y.n z.n ⟨#[]⟩ rfl _ _ _ ((unhide H3).kp (Kp.drew _) (by simp))) rfl ⟨by rw [unhide HR]; rfl, unhide HF w3.drew y.n z.n ⟨#[]⟩ ((unhide K3).trans (Kp.drew _) (by simp))⟩)
    · have HR : Hid (R = none) := hide (by
        rw [hR]
        unfold ackOf
        split
        · exact absurd rfl h3
        · rfl)
      have HE : Hid (∀ W v, OwnsI (w.heap.size + 1) W v l → ∃ ad cp, v = .slice ad l.length cp) := hide (fun W v h => h.form)
      have EQ' : ∀ W, (Op.equalIn 10000 97 (.agg #[.int .i64 0, .int .i64 0]) (.agg #[.int .i64 0, .int .i64 0])).run Try.prog W = .ok true W := fun W => EQ 0 0 W
      have h3i : ((l.length : Int) != 3) = true := by rw [bne_iff_ne]; omega
      clear hR EQ hpc h3
      go_enter Try.func30, Try.ntmps30
      go_wp2_with fail
      refine (unhide DE).mono ?_
      rintro e w1 ⟨v, rfl, h1, k1⟩
      rw [World.size_alloc] at h1 k1
      obtain ⟨ad, cp, rfl⟩ := unhide HE w1 v h1
      have h1' := (unhide H0).kp (F := []) (Kp.ofBelow (by rw [World.size_alloc]; exact k1)) (by simp)
      have k1' : Kp [] w w1 := (unhide K0).trans (Kp.ofBelow (by rw [World.size_alloc]; exact k1)) (by simp)
      clear h1 k1 H0 K0 DE HE
      go_upto_region 2 with fail
      obtain ⟨W2, hW2⟩ : ∃ W2, W2 = w1.alloc (.cells #[.int .i64 0, .int .i64 0] 97) := ⟨_, rfl⟩
      have k2 : Kp [] w1 W2 := by rw [hW2]; exact Kp.alloc _ _
      have fb : CBox w1.heap.size #[.int .i64 0, .int .i64 0] 97 W2 := by rw [hW2]; exact CBox.new _ _ _
      rw [← hW2]
      have f0 := fb.cell (i := 0) (v := .int .i64 0) rfl
      have f1 := fb.cell (i := 1) (v := .int .i64 0) rfl
      have H3 := hide (h1'.kp k2 (by simp))
      have K3 := hide (k1'.trans k2 (by simp))
      clear hW2 k2 fb h1' k1'
      have r0 := (unhide H3).cell (i := 0) (v := .int .i64 0) rfl
      have r1 := (unhide H3).cell (i := 1) (v := .int .i64 0) rfl
      have r2 := (unhide H3).cell (i := 2) (v := .string ⟨#[]⟩) rfl
      have g0 := (unhide H3).froz 0
      have g1 := (unhide H3).froz 1
      have g2 := (unhide H3).froz 2
      go_wp2
      exact bodyPost_ret (pkt_res (p := 2) (u := 3) rfl _ W2 w.heap.size 0 0 ⟨#[]⟩ rfl _ _ _ (unhide H3)) rfl ⟨by rw [unhide HR]; rfl, unhide HF W2 0 0 ⟨#[]⟩ (unhide K3)⟩
  · have HR : Hid (R = none) := hide (by rw [hR, if_neg hc0])
    have HE : Hid (∀ W v, OwnsI (w.heap.size + 1) W v l → ∃ ad cp, v = .slice ad l.length cp) := hide (fun W v h => h.form)
    have EQ' : ∀ W, (Op.equalIn 10000 97 (.agg #[.int .i64 p, .int .i64 c]) (.agg #[.int .i64 0, .int .i64 0])).run Try.prog W = .ok false W := fun W => by
      rw [EQ p c W, beq_eq_false_iff_ne.2 hc0, Bool.and_false]
    clear hR EQ hpc hc0
    go_enter Try.func30, Try.ntmps30
    go_wp2_with fail
    refine (unhide DE).mono ?_
    rintro e w1 ⟨v, rfl, h1, k1⟩
    rw [World.size_alloc] at h1 k1
    obtain ⟨ad, cp, rfl⟩ := unhide HE w1 v h1
    have h1' := (unhide H0).kp (F := []) (Kp.ofBelow (by rw [World.size_alloc]; exact k1)) (by simp)
    have k1' : Kp [] w w1 := (unhide K0).trans (Kp.ofBelow (by rw [World.size_alloc]; exact k1)) (by simp)
    clear h1 k1 H0 K0 DE HE
    go_upto_region 2 with fail
    obtain ⟨W2, hW2⟩ : ∃ W2, W2 = w1.alloc (.cells #[.int .i64 p, .int .i64 c] 97) := ⟨_, rfl⟩
    have k2 : Kp [] w1 W2 := by rw [hW2]; exact Kp.alloc _ _
    have fb : CBox w1.heap.size #[.int .i64 p, .int .i64 c] 97 W2 := by rw [hW2]; exact CBox.new _ _ _
    rw [← hW2]
    have f0 := fb.cell (i := 0) (v := .int .i64 p) rfl
    have f1 := fb.cell (i := 1) (v := .int .i64 c) rfl
    have H3 := hide (h1'.kp k2 (by simp))
    have K3 := hide (k1'.trans k2 (by simp))
    clear hW2 k2 fb h1' k1'
    have r0 := (unhide H3).cell (i := 0) (v := .int .i64 0) rfl
    have r1 := (unhide H3).cell (i := 1) (v := .int .i64 0) rfl
    have r2 := (unhide H3).cell (i := 2) (v := .string ⟨#[]⟩) rfl
    have g0 := (unhide H3).froz 0
    have g1 := (unhide H3).froz 1
    have g2 := (unhide H3).froz 2
    go_wp2
    exact bodyPost_ret (pkt_res (p := 2) (u := 3) rfl _ W2 w.heap.size 0 0 ⟨#[]⟩ rfl _ _ _ (unhide H3)) rfl ⟨by rw [unhide HR]; rfl, unhide HF W2 0 0 ⟨#[]⟩ (unhide K3)⟩
end Go.Proofs.Ytjacedlfkimlhaa
namespace Go.Proofs.Ytjacedlfkimlhaa
open Go.RowKit Lk

theorem al_cells (W : World) (o : Obj) : Kp [] W (W.alloc o) := Kp.alloc W o
set_option maxHeartbeats 8000000 in
set_option maxRecDepth 100000 in
theorem lrD_any (b : ByteArray) (w : World) (hb : b.size ≤ 9223372036854775807) :
    Calls Try.prog 33 #[.string b] w fun e w' => e = .returned (.tuple #[.agg #[.int .i64 (dEp (lrD b)), .int .i64 (dNo (lrD b)), .string (dTx (lrD b))], .bool (lrD b).isSome]) ∧ Below w.heap.size w w' := by
  have DE := hide (decode_any b (w.alloc (.cells #[.int .i64 0, .int .i64 0, .string ⟨#[]⟩] 77)) hb)
  have B0 := CBox.new w #[.int .i64 0, .int .i64 0, .string ⟨#[]⟩] 77
  have K0 := hide (Kp.alloc w (.cells #[.int .i64 0, .int .i64 0, .string ⟨#[]⟩] 77))
  have HF : Hid (∀ W e n t, Kp [] w W → Below w.heap.size w (((W.setCell ⟨w.heap.size, 0, none⟩ (.int .i64 e)).setCell ⟨w.heap.size, 1, none⟩ (.int .i64 n)).setCell ⟨w.heap.size, 2, none⟩ (.string t))) := hide (fun W e n t hk => (hk.trans (set3 W w.heap.size _ _ _) (by simp)).below (Nat.le_refl _) (by simp))
  have H0 := hide B0
  have EQ := fun p c W => eqF 9998 p c 0 0 W
  obtain ⟨l, hl⟩ : ∃ l, l = (decS b.data.toList).1 := ⟨_, rfl⟩
  obtain ⟨p, hp⟩ : ∃ p, p = (decS b.data.toList).2.1 := ⟨_, rfl⟩
  obtain ⟨c, hc⟩ : ∃ c, c = (decS b.data.toList).2.2 := ⟨_, rfl⟩
  have hpc : c = 0 → p = 0 := fun h => by rw [hp]; exact decS_at _ (by rw [← hc]; exact h)
  have hR : lrD b = if c = 0 then dataOf l else none := by unfold lrD; rw [← hc, ← hl]
  rw [← hl, ← hp, ← hc] at DE
  obtain ⟨R, hRR⟩ : ∃ R, R = lrD b := ⟨_, rfl⟩
  rw [← hRR] at hR ⊢
  clear hl hp hc hRR hb B0
  by_cases hc0 : c = 0
  · have hp0 := hpc hc0
    subst hc0 hp0
    rw [if_pos rfl] at hR
    by_cases h4 : l.length = 4
    · obtain ⟨x, y, z, d, rfl⟩ : ∃ x y z d, l = [x, y, z, d] := by
        match l, h4 with
        | [x, y, z, d], _ => exact ⟨x, y, z, d, rfl⟩
      have HE : Hid (∀ W v, OwnsI (w.heap.size + 1) W v [x, y, z, d] → ∃ bb cp, v = .slice (some ⟨bb, 0, none⟩) 4 cp ∧ 4 ≤ cp ∧ ItemsAt W (some ⟨bb, 0, none⟩) [x, y, z, d]) := hide (fun W v h => by
        obtain ⟨_, ⟨_, h0⟩ | ⟨g, cp, cur, rfl, _, _, hn, _⟩⟩ := id h
        · simp at h0
        · obtain ⟨ad, cp', e, ha⟩ := h.items
          injection e with e1 e2 e3
          subst e1
          exact ⟨g, cp, rfl, by simpa using hn, ha⟩)
      have H3A : Hid (∀ W ad, ItemsAt W ad [x, y, z, d] → ItemsAt W ad [x, y, z]) := hide (fun W ad h _ => by
        obtain ⟨b, off, e, hlt, hc⟩ := h (by simp)
        refine ⟨b, off, e, hlt, fun i hi => ?_⟩
        have := hc i (by simp at hi ⊢; omega)
        match i, hi, this with
        | 0, _, this => exact this
        | 1, _, this => exact this
        | 2, _, this => exact this)
      have HHD := hide (fun ad cp W h => lHeadB_any ad cp x y z 0 1073741824 W h)
      have EQ' : ∀ W, (Op.equalIn 10000 97 (.agg #[.int .i64 0, .int .i64 0]) (.agg #[.int .i64 0, .int .i64 0])).run Try.prog W = .ok true W := fun W => EQ 0 0 W
      have HR := hide (show R = if headB [x, y, z] 0 1073741824 && (d.t && decide (d.s.size ≤ 60000)) then some (y.n, z.n, d.s) else none from hR)
      clear hR EQ hpc h4
      go_enter Try.func33, Try.ntmps33
      go_wp2_with fail
      refine (unhide DE).mono ?_
      rintro e w1 ⟨v, rfl, h1, k1⟩
      rw [World.size_alloc] at h1 k1
      obtain ⟨bb, cp, rfl, hcp, ha⟩ := unhide HE w1 v h1
      have HA := hide ha
      clear ha
      have h1' := (unhide H0).kp (F := []) (Kp.ofBelow (by rw [World.size_alloc]; exact k1)) (by simp)
      have k1' : Kp [] w w1 := (unhide K0).trans (Kp.ofBelow (by rw [World.size_alloc]; exact k1)) (by simp)
      clear h1 k1 H0 K0 DE HE
      go_upto_region 2 with fail
      obtain ⟨W2, hW2⟩ : ∃ W2, W2 = w1.alloc (.cells #[.int .i64 0, .int .i64 0] 97) := ⟨_, rfl⟩
      have k2 : Kp [] w1 W2 := by rw [hW2]; exact Kp.alloc _ _
      have fb : CBox w1.heap.size #[.int .i64 0, .int .i64 0] 97 W2 := by rw [hW2]; exact CBox.new _ _ _
      rw [← hW2]
      have f0 := fb.cell (i := 0) (v := .int .i64 0) rfl
      have f1 := fb.cell (i := 1) (v := .int .i64 0) rfl
      have H3 := hide (h1'.kp k2 (by simp))
      have K3 := hide (k1'.trans k2 (by simp))
      clear hW2 fb h1' k1'
      have HC := hide (unhide HHD (some ⟨bb, 0, none⟩) cp W2 (unhide H3A _ _ (items_kp (unhide HA) k2)))
      have HA2 := hide (items_kp (unhide HA) k2)
      clear HA HHD H3A k2
      have hcpi : (3 : Int) ≤ (cp : Int) := by omega
      go_wp2_with fail
      refine (unhide HC).mono ?_
      rintro e w3 ⟨rfl, k3⟩
      have H4 := hide ((unhide H3).kp k3 (by simp))
      have K4 := hide ((unhide K3).trans k3 (by simp))
      have HA4 := hide (items_kp (unhide HA2) k3)
      clear HA2 H3 K3 k3 HC f0 f1
      cases hb : headB [x, y, z] 0 1073741824 with
      | false =>
        rw [hb, Bool.false_and] at HR
        clear HA4 hb
        have r0 := (unhide H4).cell (i := 0) (v := .int .i64 0) rfl
        have r1 := (unhide H4).cell (i := 1) (v := .int .i64 0) rfl
        have r2 := (unhide H4).cell (i := 2) (v := .string ⟨#[]⟩) rfl
        have g0 := (unhide H4).froz 0
        have g1 := (unhide H4).froz 1
        have g2 := (unhide H4).froz 2
        go_wp2
        exact bodyPost_ret (pkt_res (p := 2) (u := 3) rfl _ w3 w.heap.size 0 0 ⟨#[]⟩ rfl _ _ _ (unhide H4)) rfl ⟨by rw [unhide HR]; rfl, unhide HF w3 0 0 ⟨#[]⟩ (unhide K4)⟩
      | true =>
        rw [hb, Bool.true_and] at HR
        clear hb
        obtain ⟨dt, dn, ds⟩ := d
        dsimp only at HR
        obtain ⟨_, _, e, _, hc⟩ := unhide HA4 (by simp)
        injection e with e
        injection e with e1 e2
        subst e1 e2
        have d0 := (hc 3 (by simp)).1
        have d1 := (hc 3 (by simp)).2.1
        have d2 := (hc 3 (by simp)).2.2
        simp only [List.getElem_cons_zero, List.getElem_cons_succ] at d0 d1 d2
        clear hc
        cases dt with
        | false =>
          rw [Bool.false_and] at HR
          go_upto_region 5 with fail
          obtain ⟨W5, hW5⟩ : ∃ W5, W5 = w3.alloc (.cells #[.bool false, .int .i64 dn, .string ds] 89) := ⟨_, rfl⟩
          have k5 : Kp [] w3 W5 := by rw [hW5]; exact Kp.alloc _ _
          have ib : CBox w3.heap.size #[.bool false, .int .i64 dn, .string ds] 89 W5 := by rw [hW5]; exact CBox.new _ _ _
          rw [← hW5]
          have i0 := ib.cell (i := 0) (v := .bool false) rfl
          have i2 := ib.cell (i := 2) (v := .string ds) rfl
          have H5 := hide ((unhide H4).kp k5 (by simp))
          have K5 := hide ((unhide K4).trans k5 (by simp))
          have IB := hide ib
          have HA5 := hide (items_kp (unhide HA4) k5)
          clear hW5 ib k5 H4 K4 HA4 d0 d1 d2
          have r0 := (unhide H5).cell (i := 0) (v := .int .i64 0) rfl
          have r1 := (unhide H5).cell (i := 1) (v := .int .i64 0) rfl
          have r2 := (unhide H5).cell (i := 2) (v := .string ⟨#[]⟩) rfl
          have g0 := (unhide H5).froz 0
          have g1 := (unhide H5).froz 1
          have g2 := (unhide H5).froz 2
          go_wp2
          exact bodyPost_ret (pkt_res (p := 2) (u := 3) rfl _ W5 w.heap.size 0 0 ⟨#[]⟩ rfl _ _ _ (unhide H5)) rfl ⟨by rw [unhide HR]; rfl, unhide HF W5 0 0 ⟨#[]⟩ (unhide K5)⟩
        | true =>
          rw [Bool.true_and] at HR
          by_cases hs : ds.size ≤ 60000
          · rw [decide_eq_true hs, if_pos rfl] at HR
            have hsi : ¬ (60000 : Int) < (ds.size : Int) := by omega
            go_upto_region 5 with fail
            obtain ⟨W5, hW5⟩ : ∃ W5, W5 = w3.alloc (.cells #[.bool true, .int .i64 dn, .string ds] 89) := ⟨_, rfl⟩
            have k5 : Kp [] w3 W5 := by rw [hW5]; exact Kp.alloc _ _
            have ib : CBox w3.heap.size #[.bool true, .int .i64 dn, .string ds] 89 W5 := by rw [hW5]; exact CBox.new _ _ _
            rw [← hW5]
            have i0 := ib.cell (i := 0) (v := .bool true) rfl
            have i2 := ib.cell (i := 2) (v := .string ds) rfl
            have H5 := hide ((unhide H4).kp k5 (by simp))
            have K5 := hide ((unhide K4).trans k5 (by simp))
            have IB := hide ib
            have HA5 := hide (items_kp (unhide HA4) k5)
            clear hW5 ib k5 H4 K4 HA4 d0 d1 d2
            have r0 := (unhide H5).cell (i := 0) (v := .int .i64 0) rfl
            have r1 := (unhide H5).cell (i := 1) (v := .int .i64 0) rfl
            have r2 := (unhide H5).cell (i := 2) (v := .string ⟨#[]⟩) rfl
            have g0 := (unhide H5).froz 0
            have g1 := (unhide H5).froz 1
            have g2 := (unhide H5).froz 2
            obtain ⟨_, _, e, _, hc⟩ := unhide HA5 (by simp)
            injection e with e
            injection e with e1 e2
            subst e1 e2
            have c1 := (hc 1 (by simp)).2.1
            have c2 := (hc 2 (by simp)).2.1
            simp only [List.getElem_cons_zero, List.getElem_cons_succ, Nat.one_mul] at c1 c2
            clear hc HA5
            go_upto_region 7 with fail
            go_region
            all_goals (go_wp2; exact bodyPost_ret (pkt_res (p := 2) (u := 3) rfl _ W5.drew w.heap.size y.n z.n ds rfl _ _ _ ((unhide H5).kp (Kp.drew _) (by simp))) rfl ⟨by rw [unhide HR]; rfl, unhide HF W5.drew y.n z.n ds ((unhide K5).trans (Kp.drew _) (by simp))⟩)
          · rw [decide_eq_false hs] at HR
            have hsi : (60000 : Int) < (ds.size : Int) := by omega
            go_upto_region 5 with fail
            obtain ⟨W5, hW5⟩ : ∃ W5, W5 = w3.alloc (.cells #[.bool true, .int .i64 dn, .string ds] 89) := ⟨_, rfl⟩
            have k5 : Kp [] w3 W5 := by rw [hW5]; exact Kp.alloc _ _
            have ib : CBox w3.heap.size #[.bool true, .int .i64 dn, .string ds] 89 W5 := by rw [hW5]; exact CBox.new _ _ _
            rw [← hW5]
            have i0 := ib.cell (i := 0) (v := .bool true) rfl
            have i2 := ib.cell (i := 2) (v := .string ds) rfl
            have H5 := hide ((unhide H4).kp k5 (by simp))
            have K5 := hide ((unhide K4).trans k5 (by simp))
            have IB := hide ib
            have HA5 := hide (items_kp (unhide HA4) k5)
            clear hW5 ib k5 H4 K4 HA4 d0 d1 d2
            have r0 := (unhide H5).cell (i := 0) (v := .int .i64 0) rfl
            have r1 := (unhide H5).cell (i := 1) (v := .int .i64 0) rfl
            have r2 := (unhide H5).cell (i := 2) (v := .string ⟨#[]⟩) rfl
            have g0 := (unhide H5).froz 0
            have g1 := (unhide H5).froz 1
            have g2 := (unhide H5).froz 2
            go_wp2
            exact bodyPost_ret (pkt_res (p := 2) (u := 3) rfl _ W5 w.heap.size 0 0 ⟨#[]⟩ rfl _ _ _ (unhide H5)) rfl ⟨by rw [unhide HR]; rfl, unhide HF W5 0 0 ⟨#[]⟩ (unhide K5)⟩
    · have HR : Hid (R = none) := hide (by
        rw [hR]
        unfold dataOf
        split
        · exact absurd rfl h4
        · rfl)
      have HE : Hid (∀ W v, OwnsI (w.heap.size + 1) W v l → ∃ ad cp, v = .slice ad l.length cp) := hide (fun W v h => h.form)
      have EQ' : ∀ W, (Op.equalIn 10000 97 (.agg #[.int .i64 0, .int .i64 0]) (.agg #[.int .i64 0, .int .i64 0])).run Try.prog W = .ok true W := fun W => EQ 0 0 W
      have h4i : ((l.length : Int) != 4) = true := by rw [bne_iff_ne]; omega
      clear hR EQ hpc h4
      go_enter Try.func33, Try.ntmps33
      go_wp2_with fail
      refine (unhide DE).mono ?_
      rintro e w1 ⟨v, rfl, h1, k1⟩
      rw [World.size_alloc] at h1 k1
      obtain ⟨ad, cp, rfl⟩ := unhide HE w1 v h1
      have h1' := (unhide H0).kp (F := []) (Kp.ofBelow (by rw [World.size_alloc]; exact k1)) (by simp)
      have k1' : Kp [] w w1 := (unhide K0).trans (Kp.ofBelow (by rw [World.size_alloc]; exact k1)) (by simp)
      clear h1 k1 H0 K0 DE HE
      go_upto_region 2 with fail
      obtain ⟨W2, hW2⟩ : ∃ W2, W2 = w1.alloc (.cells #[.int .i64 0, .int .i64 0] 97) := ⟨_, rfl⟩
      have k2 : Kp [] w1 W2 := by rw [hW2]; exact Kp.alloc _ _
      have fb : CBox w1.heap.size #[.int .i64 0, .int .i64 0] 97 W2 := by rw [hW2]; exact CBox.new _ _ _
      rw [← hW2]
      have f0 := fb.cell (i := 0) (v := .int .i64 0) rfl
      have f1 := fb.cell (i := 1) (v := .int .i64 0) rfl
      have H3 := hide (h1'.kp k2 (by simp))
      have K3 := hide (k1'.trans k2 (by simp))
      clear hW2 fb h1' k1'
      clear k2
      have r0 := (unhide H3).cell (i := 0) (v := .int .i64 0) rfl
      have r1 := (unhide H3).cell (i := 1) (v := .int .i64 0) rfl
      have r2 := (unhide H3).cell (i := 2) (v := .string ⟨#[]⟩) rfl
      have g0 := (unhide H3).froz 0
      have g1 := (unhide H3).froz 1
      have g2 := (unhide H3).froz 2
      go_wp2
      exact bodyPost_ret (pkt_res (p := 2) (u := 3) rfl _ W2 w.heap.size 0 0 ⟨#[]⟩ rfl _ _ _ (unhide H3)) rfl ⟨by rw [unhide HR]; rfl, unhide HF W2 0 0 ⟨#[]⟩ (unhide K3)⟩
  · have HR : Hid (R = none) := hide (by rw [hR, if_neg hc0])
    have HE : Hid (∀ W v, OwnsI (w.heap.size + 1) W v l → ∃ ad cp, v = .slice ad l.length cp) := hide (fun W v h => h.form)
    have EQ' : ∀ W, (Op.equalIn 10000 97 (.agg #[.int .i64 p, .int .i64 c]) (.agg #[.int .i64 0, .int .i64 0])).run Try.prog W = .ok false W := fun W => by
      rw [EQ p c W, beq_eq_false_iff_ne.2 hc0, Bool.and_false]
    clear hR EQ hpc hc0
    go_enter Try.func33, Try.ntmps33
    go_wp2_with fail
    refine (unhide DE).mono ?_
    rintro e w1 ⟨v, rfl, h1, k1⟩
    rw [World.size_alloc] at h1 k1
    obtain ⟨ad, cp, rfl⟩ := unhide HE w1 v h1
    have h1' := (unhide H0).kp (F := []) (Kp.ofBelow (by rw [World.size_alloc]; exact k1)) (by simp)
    have k1' : Kp [] w w1 := (unhide K0).trans (Kp.ofBelow (by rw [World.size_alloc]; exact k1)) (by simp)
    clear h1 k1 H0 K0 DE HE
    go_upto_region 2 with fail
    obtain ⟨W2, hW2⟩ : ∃ W2, W2 = w1.alloc (.cells #[.int .i64 p, .int .i64 c] 97) := ⟨_, rfl⟩
    have k2 : Kp [] w1 W2 := by rw [hW2]; exact Kp.alloc _ _
    have fb : CBox w1.heap.size #[.int .i64 p, .int .i64 c] 97 W2 := by rw [hW2]; exact CBox.new _ _ _
    rw [← hW2]
    have f0 := fb.cell (i := 0) (v := .int .i64 p) rfl
    have f1 := fb.cell (i := 1) (v := .int .i64 c) rfl
    have H3 := hide (h1'.kp k2 (by simp))
    have K3 := hide (k1'.trans k2 (by simp))
    clear hW2 fb h1' k1'
    clear k2
    have r0 := (unhide H3).cell (i := 0) (v := .int .i64 0) rfl
    have r1 := (unhide H3).cell (i := 1) (v := .int .i64 0) rfl
    have r2 := (unhide H3).cell (i := 2) (v := .string ⟨#[]⟩) rfl
    have g0 := (unhide H3).froz 0
    have g1 := (unhide H3).froz 1
    have g2 := (unhide H3).froz 2
    go_wp2
    exact bodyPost_ret (pkt_res (p := 2) (u := 3) rfl _ W2 w.heap.size 0 0 ⟨#[]⟩ rfl _ _ _ (unhide H3)) rfl ⟨by rw [unhide HR]; rfl, unhide HF W2 0 0 ⟨#[]⟩ (unhide K3)⟩
end Go.Proofs.Ytjacedlfkimlhaa
