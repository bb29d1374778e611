/-
  The document's link: packets as bytes.
  The document's link: senders and receivers are begun.
  Links: bytes as packets.
-/
import Derived.Test.YtiomngpfolkgpaaL06
import Derived.Test.YtiomngpfolkgpaaL07
import Derived.Test.YtiomngpfolkgpaaL10
namespace Go.Proofs.Ytiomngpfolkgpaa
open Go.RowKit Lk

/-- What the document's bytes are, where they are no more than may be. -/
theorem refBytes_enc (ad : Option Addr) (cap : Nat) (l : List It) (w : World) (hlen : l.length ≤ 4096) (hA : ItemsAt w ad l) (hok : ∀ x ∈ l, x.ok) (hsz : ∀ x ∈ l, x.s.size ≤ 140737488351232) (he : encE l = 0) (hl : (listB l).length ≤ 262144) :
    Calls Try.prog 39 #[.slice ad l.length cap] w fun e w' => e = .returned (.string (encS l)) ∧ Below w.heap.size w w' := by
  refine (refBytes_any ad cap l w (by omega) hA hok hsz).mono ?_
  rintro e w' ⟨k, hk, rfl, h, hb⟩
  have hkl : (listB (l.take k)).length ≤ (listB l).length := by
    have : listB l = listB (l.take k) ++ listB (l.drop k) := by
      unfold listB
      rw [← List.flatMap_append, List.take_append_drop]
    rw [this, List.length_append]
    omega
  obtain rfl : k = l.length := h.resolve_right (by omega)
  refine ⟨?_, hb⟩
  rw [List.take_length]
  unfold encS
  rw [if_pos he]
theorem rAck_any (ep n : Int) (w : World) (e0 : 0 ≤ ep) (e1 : ep ≤ 1073741824) (n0 : 0 ≤ n) (n1 : n ≤ 1073741825) :
    Calls Try.prog 35 #[.int .i64 ep, .int .i64 n] w fun e w' => e = .returned (.string (ackB ep n)) ∧ Below w.heap.size w w' := by
  have HB : Hid (Calls Try.prog 39 #[.slice (some ⟨w.heap.size, 0, none⟩) 3 3] (w.alloc (.cells (hdC 1 ep n) 84)) fun e w' => e = .returned (.string (ackB ep n)) ∧ Below (w.alloc (.cells (hdC 1 ep n) 84)).heap.size (w.alloc (.cells (hdC 1 ep n) 84)) w') := hide (by
    obtain ⟨ad, cp, e, ha⟩ := (owns3 1 ep n w w.heap.size (Nat.le_refl _)).items
    injection e with h1 h2 h3
    subst h1 h3
    exact refBytes_enc _ 3 (ackL ep n) _ (by simp [ackL]) ha (fun x hx => by
      unfold ackL at hx
      simp only [List.mem_cons, List.not_mem_nil, or_false] at hx
      rcases hx with rfl | rfl | rfl
      · exact pkN_ok (by decide) (by decide)
      · exact pkN_ok (by omega) (by omega)
      · exact pkN_ok (by omega) (by omega)) (fun x hx => by
      unfold ackL at hx
      simp only [List.mem_cons, List.not_mem_nil, or_false] at hx
      rcases hx with rfl | rfl | rfl <;> (show (0 : Nat) ≤ _; decide)) (ackL_enc e0 e1 n0 n1) (by have := ackL_len e0 e1 n0 n1; omega))
  have HK : Hid (Below w.heap.size w (w.alloc (.cells (hdC 1 ep n) 84)) ∧ w.heap.size ≤ (w.alloc (.cells (hdC 1 ep n) 84)).heap.size) := hide ⟨(Below.refl _ _).alloc (Nat.le_refl _) _, by simp⟩
  unfold hdC at HB HK
  generalize ackB ep n = S at *
  go_enter Try.func35, Try.ntmps35
  go_wp2_with fail
  refine (unhide HB).mono ?_
  rintro e w2 ⟨rfl, k3⟩
  have HK3 := hide ((unhide HK).1.trans (k3.mono (unhide HK).2))
  clear HB k3 HK
  go_wp2
  go_ret
  exact ⟨rfl, unhide HK3⟩
/-- The cells of a data packet's items. -/
def hdD (ep n : Int) (t : ByteArray) : Array Value := #[.bool false, .int .i64 0, .string ⟨#[]⟩, .bool false, .int .i64 ep, .string ⟨#[]⟩, .bool false, .int .i64 n, .string ⟨#[]⟩, .bool true, .int .i64 0, .string t]
theorem hdD_at (ep n : Int) (t : ByteArray) (w : World) : ItemsAt (w.alloc (.cells (hdD ep n t) 84)) (some ⟨w.heap.size, 0, none⟩) (dataL ep n t) := fun _ => ⟨w.heap.size, 0, rfl, by simp, fun i hi => by
  have hb := CBox.new w (hdD ep n t) 84
  have hi4 : i < 4 := hi
  have : i = 0 ∨ i = 1 ∨ i = 2 ∨ i = 3 := by omega
  rcases this with rfl | rfl | rfl | rfl <;> exact ⟨hb.cell rfl, hb.cell rfl, hb.cell rfl⟩⟩
theorem rData_any (ep n : Int) (t : ByteArray) (w : World) (e0 : 0 ≤ ep) (e1 : ep ≤ 1073741824) (n0 : 0 ≤ n) (n1 : n ≤ 1073741825) (ht : t.size ≤ 70000) :
    Calls Try.prog 26 #[.int .i64 ep, .int .i64 n, .string t] w fun e w' => e = .returned (.string (dataB ep n t)) ∧ Below w.heap.size w w' := by
  have HB : Hid (Calls Try.prog 39 #[.slice (some ⟨w.heap.size, 0, none⟩) 4 4] (w.alloc (.cells (hdD ep n t) 84)) fun e w' => e = .returned (.string (dataB ep n t)) ∧ Below (w.alloc (.cells (hdD ep n t) 84)).heap.size (w.alloc (.cells (hdD ep n t) 84)) w') := hide (by
    exact refBytes_enc _ 4 (dataL ep n t) _ (by simp [dataL]) (hdD_at ep n t w) (dataL_ok (by omega) (by omega) (by omega) (by omega) (by omega)) (fun x hx => by
      unfold dataL at hx
      simp only [List.mem_cons, List.not_mem_nil, or_false] at hx
      rcases hx with rfl | rfl | rfl | rfl
      · show (0 : Nat) ≤ _; decide
      · show (0 : Nat) ≤ _; decide
      · show (0 : Nat) ≤ _; decide
      · show t.size ≤ _; omega) (dataL_enc e0 e1 n0 n1 ht) (by have := dataL_len e0 e1 n0 n1 ht; omega))
  have HK : Hid (Below w.heap.size w (w.alloc (.cells (hdD ep n t) 84)) ∧ w.heap.size ≤ (w.alloc (.cells (hdD ep n t) 84)).heap.size) := hide ⟨(Below.refl _ _).alloc (Nat.le_refl _) _, by simp⟩
  unfold hdD at HB HK
  generalize dataB ep n t = S at *
  go_enter Try.func26, Try.ntmps26
  go_wp2_with fail
  refine (unhide HB).mono ?_
  rintro e w2 ⟨rfl, k3⟩
  have HK3 := hide ((unhide HK).1.trans (k3.mono (unhide HK).2))
  clear HB k3 HK
  go_wp2
  go_ret
  exact ⟨rfl, unhide HK3⟩
end Go.Proofs.Ytiomngpfolkgpaa
namespace Go.Proofs.Ytiomngpfolkgpaa
open Go.RowKit Lk

theorem rNewSender_ok (ep wd pt : Int) (w : World) (h : (lepB ep && (lstB wd && lstB pt)) = true) :
    Calls Try.prog 5 #[.int .i64 ep, .int .i64 wd, .int .i64 pt] w fun e w' => e = .returned (.tuple #[.pointer (some ⟨w.heap.size, 0, none⟩), .int .i64 0]) ∧ w' = w.alloc (.cells #[.int .i64 ep, .int .i64 wd, .int .i64 pt, .slice none 0 0, .int .i64 0, .int .i64 0] 52) := by
  simp only [Bool.and_eq_true] at h
  obtain ⟨h1, h2, h3⟩ := h
  unfold lepB at h1
  unfold lstB at h2 h3
  simp only [decide_eq_true_iff] at h1 h2 h3
  have a1 : ¬ ep < 0 := by omega
  have a2 : ¬ 1073741824 < ep := by omega
  have a3 : ¬ wd < 1 := by omega
  have a4 : ¬ 256 < wd := by omega
  have a5 : ¬ pt < 1 := by omega
  have a6 : ¬ 256 < pt := by omega
  clear h1 h2 h3
  go_enter Try.func5, Try.ntmps5
  go_wp2
  go_ret2
  exact ⟨rfl, rfl⟩
theorem rNewReceiver_ok (ep wd : Int) (w : World) (h : (lepB ep && lstB wd) = true) :
    Calls Try.prog 7 #[.int .i64 ep, .int .i64 wd] w fun e w' => e = .returned (.tuple #[.pointer (some ⟨w.heap.size, 0, none⟩), .int .i64 0]) ∧ w' = w.alloc (.cells #[.int .i64 ep, .int .i64 wd, .int .i64 0, .slice none 0 0] 55) := by
  simp only [Bool.and_eq_true] at h
  obtain ⟨h1, h2⟩ := h
  unfold lepB at h1
  unfold lstB at h2
  simp only [decide_eq_true_iff] at h1 h2
  have a1 : ¬ ep < 0 := by omega
  have a2 : ¬ 1073741824 < ep := by omega
  have a3 : ¬ wd < 1 := by omega
  have a4 : ¬ 256 < wd := by omega
  clear h1 h2
  go_enter Try.func7, Try.ntmps7
  go_wp2
  go_ret2
  exact ⟨rfl, rfl⟩
theorem rNewReceiver_not (ep wd : Int) (w : World) (h : (lepB ep && lstB wd) = false) :
    Calls Try.prog 7 #[.int .i64 ep, .int .i64 wd] w fun e w' => e = .returned (.tuple #[.pointer none, .int .i64 1]) ∧ w' = w := by
  have h' : ¬ ((0 ≤ ep ∧ ep ≤ 1073741824) ∧ (1 ≤ wd ∧ wd ≤ 256)) := fun hh => by
    unfold lepB lstB at h
    rw [decide_eq_true hh.1, decide_eq_true hh.2] at h
    cases h
  clear h
  by_cases a1 : ep < 0
  · clear h'
    go_enter Try.func7, Try.ntmps7
    go_wp2
    go_ret2
    exact ⟨rfl, rfl⟩
  by_cases a2 : 1073741824 < ep
  · clear h'
    go_enter Try.func7, Try.ntmps7
    go_wp2
    go_ret2
    exact ⟨rfl, rfl⟩
  by_cases a3 : wd < 1
  · clear h'
    go_enter Try.func7, Try.ntmps7
    go_wp2
    go_ret2
    exact ⟨rfl, rfl⟩
  have a4 : 256 < wd := by omega
  clear h'
  go_enter Try.func7, Try.ntmps7
  go_wp2
  go_ret2
  exact ⟨rfl, rfl⟩
end Go.Proofs.Ytiomngpfolkgpaa
namespace Go.Proofs.Ytiomngpfolkgpaa
open Go.RowKit Lk

theorem al_set2 (w1 : World) (cs : Array Value) (t : TypeId) (x y : Value) : Kp [] w1 (((w1.alloc (.cells cs t)).setCell ⟨w1.heap.size, 0, none⟩ x).setCell ⟨w1.heap.size, 1, none⟩ y) :=
  ((Kp.alloc w1 _).trans (Kp.set _ _ _ _) (by simp)).trans (Kp.set _ _ _ _) (by simp)
def aEp (o : Option (Int × Int)) : Int := match o with | none => 0 | some p => p.1
def aNo (o : Option (Int × Int)) : Int := match o with | none => 0 | some p => p.2
def dEp (o : Option (Int × Int × ByteArray)) : Int := match o with | none => 0 | some p => p.1
def dNo (o : Option (Int × Int × ByteArray)) : Int := match o with | none => 0 | some p => p.2.1
def dTx (o : Option (Int × Int × ByteArray)) : ByteArray := match o with | none => ⟨#[]⟩ | some p => p.2.2
/-- A result that lies in a packet's box, behind its store. -/
theorem pkt_res {fn : Func} {p u : Tmp} (h : fn.results = #[.cell p 72, .tmp u]) (tmps : Array Value) (W : World) (g : Nat) (e n : Int) (t : ByteArray) (hp : tmps.getD p undef = .pointer (some ⟨g, 0, none⟩)) (a b c : Value) (hb : CBox g #[a, b, c] 72 W) :
    (results fn tmps).run Try.prog (((W.setCell ⟨g, 0, none⟩ (.int .i64 e)).setCell ⟨g, 1, none⟩ (.int .i64 n)).setCell ⟨g, 2, none⟩ (.string t)) = .ok (.tuple #[.agg #[.int .i64 e, .int .i64 n, .string t], tmps.getD u undef]) (((W.setCell ⟨g, 0, none⟩ (.int .i64 e)).setCell ⟨g, 1, none⟩ (.int .i64 n)).setCell ⟨g, 2, none⟩ (.string t)) :=
  results_row_tmp h tmps _ g 72 #[.int .i64 e, .int .i64 n, .string t] (0, 0) _ hp (((hb.set 0 (.int .i64 e)).set 1 (.int .i64 n)).set 2 (.string t)) Try.underlying72 rfl info_pkt
theorem set3 (W : World) (g : Nat) (x y z : Value) : Kp [g] W (((W.setCell ⟨g, 0, none⟩ x).setCell ⟨g, 1, none⟩ y).setCell ⟨g, 2, none⟩ z) :=
  ((Kp.set W g 0 x).trans (Kp.set _ g 1 y) (fun _ h => Or.inl h)).trans (Kp.set _ g 2 z) (fun _ h => Or.inl h)
set_option maxHeartbeats 4000000 in
set_option maxRecDepth 100000 in
theorem lrA_any (b : ByteArray) (w : World) (hb : b.size ≤ 9223372036854775807) :
    Calls Try.prog 27 #[.string b] w fun e w' => e = .returned (.tuple #[.agg #[.int .i64 (aEp (lrA b)), .int .i64 (aNo (lrA b)), .string ⟨#[]⟩], .bool (lrA b).isSome]) ∧ Below w.heap.size w w' := by
  have DE := hide (decode_any b (w.alloc (.cells #[.int .i64 0, .int .i64 0, .string ⟨#[]⟩] 72)) hb)
  have B0 := CBox.new w #[.int .i64 0, .int .i64 0, .string ⟨#[]⟩] 72
  have K0 := hide (Kp.alloc w (.cells #[.int .i64 0, .int .i64 0, .string ⟨#[]⟩] 72))
  have HF : Hid (∀ W e n t, Kp [] w W → Below w.heap.size w (((W.setCell ⟨w.heap.size, 0, none⟩ (.int .i64 e)).setCell ⟨w.heap.size, 1, none⟩ (.int .i64 n)).setCell ⟨w.heap.size, 2, none⟩ (.string t))) := hide (fun W e n t hk => (hk.trans (set3 W w.heap.size _ _ _) (by simp)).below (Nat.le_refl _) (by simp))
  have H0 := hide B0
  have EQ := fun p c W => eqF 9998 p c 0 0 W
  obtain ⟨l, hl⟩ : ∃ l, l = (decS b.data.toList).1 := ⟨_, rfl⟩
  obtain ⟨p, hp⟩ : ∃ p, p = (decS b.data.toList).2.1 := ⟨_, rfl⟩
  obtain ⟨c, hc⟩ : ∃ c, c = (decS b.data.toList).2.2 := ⟨_, rfl⟩
  have hpc : c = 0 → p = 0 := fun h => by rw [hp]; exact decS_at _ (by rw [← hc]; exact h)
  have hR : lrA b = if c = 0 then ackOf l else none := by unfold lrA; rw [← hc, ← hl]
  rw [← hl, ← hp, ← hc] at DE
  obtain ⟨R, hRR⟩ : ∃ R, R = lrA b := ⟨_, rfl⟩
  rw [← hRR] at hR ⊢
  clear hl hp hc hRR hb B0
  by_cases hc0 : c = 0
  · have hp0 := hpc hc0
    subst hc0 hp0
    rw [if_pos rfl] at hR
    by_cases h3 : l.length = 3
    · obtain ⟨x, y, z, rfl⟩ : ∃ x y z, l = [x, y, z] := by
        match l, h3 with
        | [x, y, z], _ => exact ⟨x, y, z, rfl⟩
      have HE : Hid (∀ W v, OwnsI (w.heap.size + 1) W v [x, y, z] → ∃ ad cp, v = .slice ad 3 cp ∧ ItemsAt W ad [x, y, z]) := hide (fun W v h => h.items)
      have HHD := hide (fun ad cp W h => lHeadB_any ad cp x y z 1 1073741825 W h)
      have EQ' : ∀ W, (Op.equalIn 10000 92 (.agg #[.int .i64 0, .int .i64 0]) (.agg #[.int .i64 0, .int .i64 0])).run Try.prog W = .ok true W := fun W => EQ 0 0 W
      have hz : R = if headB [x, y, z] 1 1073741825 then some (y.n, z.n) else none := hR
      have HR := hide hz
      clear hz hR EQ hpc h3
      go_enter Try.func27, Try.ntmps27
      go_wp2_with fail
      refine (unhide DE).mono ?_
      rintro e w1 ⟨v, rfl, h1, k1⟩
      rw [World.size_alloc] at h1 k1
      obtain ⟨ad, cp, rfl, ha⟩ := unhide HE w1 v h1
      have HA := hide ha
      have H1 := hide ((unhide H0).kp (F := []) (Kp.ofBelow (by rw [World.size_alloc]; exact k1)) (by simp))
      have K1 : Hid (Kp [] w w1) := hide ((unhide K0).trans (Kp.ofBelow (by rw [World.size_alloc]; exact k1)) (by simp))
      clear h1 k1 ha H0 K0 DE HE
      go_upto_region 2 with fail
      obtain ⟨W2, hW2⟩ : ∃ W2, W2 = w1.alloc (.cells #[.int .i64 0, .int .i64 0] 92) := ⟨_, rfl⟩
      have k2 : Kp [] w1 W2 := by rw [hW2]; exact Kp.alloc _ _
      have fb : CBox w1.heap.size #[.int .i64 0, .int .i64 0] 92 W2 := by rw [hW2]; exact CBox.new _ _ _
      rw [← hW2]
      have f0 := fb.cell (i := 0) (v := .int .i64 0) rfl
      have f1 := fb.cell (i := 1) (v := .int .i64 0) rfl
      have HC := hide (unhide HHD ad cp W2 (items_kp (unhide HA) k2))
      have HA2 := hide (items_kp (unhide HA) k2)
      have H2 := hide ((unhide H1).kp k2 (by simp))
      have K2 := hide ((unhide K1).trans k2 (by simp))
      clear hW2 k2 fb HA H1 K1 HHD
      go_wp2_with fail
      refine (unhide HC).mono ?_
      rintro e w3 ⟨rfl, k3⟩
      have H3 := hide ((unhide H2).kp k3 (by simp))
      have K3 := hide ((unhide K2).trans k3 (by simp))
      have ha := items_kp (unhide HA2) k3
      clear HA2 H2 K2 k3 HC f0 f1
      have r0 := (unhide H3).cell (i := 0) (v := .int .i64 0) rfl
      have r1 := (unhide H3).cell (i := 1) (v := .int .i64 0) rfl
      have r2 := (unhide H3).cell (i := 2) (v := .string ⟨#[]⟩) rfl
      have g0 := (unhide H3).froz 0
      have g1 := (unhide H3).froz 1
      have g2 := (unhide H3).froz 2
      cases hb : headB [x, y, z] 1 1073741825 with
      | false =>
        rw [hb] at HR
        clear ha hb
        go_wp2
        exact bodyPost_ret (pkt_res (p := 2) (u := 3) rfl _ w3 w.heap.size 0 0 ⟨#[]⟩ rfl _ _ _ (unhide H3)) rfl ⟨by rw [unhide HR]; rfl, unhide HF w3 0 0 ⟨#[]⟩ (unhide K3)⟩
      | true =>
        rw [hb] at HR
        obtain ⟨bb, off, rfl, _, hc⟩ := ha (by simp)
        have c1 := (hc 1 (by simp)).2.1
        have c2 := (hc 2 (by simp)).2.1
        simp only [List.getElem_cons_zero, List.getElem_cons_succ, Nat.one_mul] at c1 c2
        clear hc hb ha
        go_upto_region 4 with fail
        go_region
        all_goals (go_wp2; exact bodyPost_ret (pkt_res (p := 2) (u := 3) rfl _ w3.drew w.heap.size y.n z.n ⟨#[]⟩ rfl _ _ _ ((unhide H3).kp (Kp.drew _) (by simp))) rfl ⟨by rw [unhide HR]; rfl, unhide HF w3.drew y.n z.n ⟨#[]⟩ ((unhide K3).trans (Kp.drew _) (by simp))⟩)
    · have HR : Hid (R = none) := hide (by
        rw [hR]
        unfold ackOf
        split
        · exact absurd rfl h3
        · rfl)
      have HE : Hid (∀ W v, OwnsI (w.heap.size + 1) W v l → ∃ ad cp, v = .slice ad l.length cp) := hide (fun W v h => h.form)
      have EQ' : ∀ W, (Op.equalIn 10000 92 (.agg #[.int .i64 0, .int .i64 0]) (.agg #[.int .i64 0, .int .i64 0])).run Try.prog W = .ok true W := fun W => EQ 0 0 W
      have h3i : ((l.length : Int) != 3) = true := by rw [bne_iff_ne]; omega
      clear hR EQ hpc h3
      go_enter Try.func27, Try.ntmps27
      go_wp2_with fail
      refine (unhide DE).mono ?_
      rintro e w1 ⟨v, rfl, h1, k1⟩
      rw [World.size_alloc] at h1 k1
      obtain ⟨ad, cp, rfl⟩ := unhide HE w1 v h1
      have h1' := (unhide H0).kp (F := []) (Kp.ofBelow (by rw [World.size_alloc]; exact k1)) (by simp)
      have k1' : Kp [] w w1 := (unhide K0).trans (Kp.ofBelow (by rw [World.size_alloc]; exact k1)) (by simp)
      clear h1 k1 H0 K0 DE HE
      go_upto_region 2 with fail
      obtain ⟨W2, hW2⟩ : ∃ W2, W2 = w1.alloc (.cells #[.int .i64 0, .int .i64 0] 92) := ⟨_, rfl⟩
      have k2 : Kp [] w1 W2 := by rw [hW2]; exact Kp.alloc _ _
      have fb : CBox w1.heap.size #[.int .i64 0, .int .i64 0] 92 W2 := by rw [hW2]; exact CBox.new _ _ _
      rw [← hW2]
      have f0 := fb.cell (i := 0) (v := .int .i64 0) rfl
      have f1 := fb.cell (i := 1) (v := .int .i64 0) rfl
      have H3 := hide (h1'.kp k2 (by simp))
      have K3 := hide (k1'.trans k2 (by simp))
      clear hW2 k2 fb h1' k1'
      have r0 := (unhide H3).cell (i := 0) (v := .int .i64 0) rfl
      have r1 := (unhide H3).cell (i := 1) (v := .int .i64 0) rfl
      have r2 := (unhide H3).cell (i := 2) (v := .string ⟨#[]⟩) rfl
      have g0 := (unhide H3).froz 0
      have g1 := (unhide H3).froz 1
      have g2 := (unhide H3).froz 2
      go_wp2
      exact bodyPost_ret (pkt_res (p := 2) (u := 3) rfl _ W2 w.heap.size 0 0 ⟨#[]⟩ rfl _ _ _ (unhide H3)) rfl ⟨by rw [unhide HR]; rfl, unhide HF W2 0 0 ⟨#[]⟩ (unhide K3)⟩
  · have HR : Hid (R = none) := hide (by rw [hR, if_neg hc0])
    have HE : Hid (∀ W v, OwnsI (w.heap.size + 1) W v l → ∃ ad cp, v = .slice ad l.length cp) := hide (fun W v h => h.form)
    have EQ' : ∀ W, (Op.equalIn 10000 92 (.agg #[.int .i64 p, .int .i64 c]) (.agg #[.int .i64 0, .int .i64 0])).run Try.prog W = .ok false W := fun W => by
      rw [EQ p c W, beq_eq_false_iff_ne.2 hc0, Bool.and_false]
    clear hR EQ hpc hc0
    go_enter Try.func27, Try.ntmps27
    go_wp2_with fail
    refine (unhide DE).mono ?_
    rintro e w1 ⟨v, rfl, h1, k1⟩
    rw [World.size_alloc] at h1 k1
    obtain ⟨ad, cp, rfl⟩ := unhide HE w1 v h1
    have h1' := (unhide H0).kp (F := []) (Kp.ofBelow (by rw [World.size_alloc]; exact k1)) (by simp)
    have k1' : Kp [] w w1 := (unhide K0).trans (Kp.ofBelow (by rw [World.size_alloc]; exact k1)) (by simp)
    clear h1 k1 H0 K0 DE HE
    go_upto_region 2 with fail
    obtain ⟨W2, hW2⟩ : ∃ W2, W2 = w1.alloc (.cells #[.int .i64 p, .int .i64 c] 92) := ⟨_, rfl⟩
    have k2 : Kp [] w1 W2 := by rw [hW2]; exact Kp.alloc _ _
    have fb : CBox w1.heap.size #[.int .i64 p, .int .i64 c] 92 W2 := by rw [hW2]; exact CBox.new _ _ _
    rw [← hW2]
    have f0 := fb.cell (i := 0) (v := .int .i64 p) rfl
    have f1 := fb.cell (i := 1) (v := .int .i64 c) rfl
    have H3 := hide (h1'.kp k2 (by simp))
    have K3 := hide (k1'.trans k2 (by simp))
    clear hW2 k2 fb h1' k1'
    have r0 := (unhide H3).cell (i := 0) (v := .int .i64 0) rfl
    have r1 := (unhide H3).cell (i := 1) (v := .int .i64 0) rfl
    have r2 := (unhide H3).cell (i := 2) (v := .string ⟨#[]⟩) rfl
    have g0 := (unhide H3).froz 0
    have g1 := (unhide H3).froz 1
    have g2 := (unhide H3).froz 2
    go_wp2
    exact bodyPost_ret (pkt_res (p := 2) (u := 3) rfl _ W2 w.heap.size 0 0 ⟨#[]⟩ rfl _ _ _ (unhide H3)) rfl ⟨by rw [unhide HR]; rfl, unhide HF W2 0 0 ⟨#[]⟩ (unhide K3)⟩
end Go.Proofs.Ytiomngpfolkgpaa
