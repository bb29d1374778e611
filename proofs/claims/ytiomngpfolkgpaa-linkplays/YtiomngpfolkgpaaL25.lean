/-
  The document's link: what is due.
-/
import Derived.Test.YtiomngpfolkgpaaL24
import Derived.Test.YtiomngpfolkgpaaL15
namespace Go.Proofs.Ytiomngpfolkgpaa
open Go.RowKit Lk

theorem lmks_skip {pt t : Int} {k : Nat} {l : List Pu} (hk : k < l.length) (hq : lagn pt t l[k] = false) : lmks pt t (k + 1) l = lmks pt t k l := by
  rw [lmks_succ _ _ _ _ hk]
  unfold lmk
  rw [hq]
  have := lmks_at pt t k l k hk
  rw [if_neg (by omega)] at this
  refine List.ext_getElem? fun j => ?_
  rw [List.getElem?_set]
  split
  · rename_i e
    subst e
    rw [if_pos (by rw [lmks_len]; exact hk), List.getElem?_eq_getElem (by rw [lmks_len]; exact hk), this]
    rfl
  · rfl
/-- A text is marked as sent. -/
theorem OuCs.set {W : World} {g off : Nat} {l : List Pu} (h : OuCs W g off l) {cur : Array Value} (hb : CBox g cur 68 W) (k : Nat) (hk : k < l.length) (t : Int) (ht : 0 ≤ t) :
    OuCs ((W.setCell ⟨g, off + k * 3 + 1, none⟩ (.bool true)).setCell ⟨g, off + k * 3 + 2, none⟩ (.int .i64 t)) g off (l.set k ⟨(l[k]).b, t⟩) := fun i hi => by
  rw [List.length_set] at hi
  obtain ⟨a0, a1, a2⟩ := h i hi
  obtain ⟨z0, z1, z2⟩ := h k hk
  have b2 := (hb.set (off + k * 3 + 1) (.bool true)).set (off + k * 3 + 2) (.int .i64 t)
  rw [hb.cells] at a0 a1 a2 z0 z1 z2
  rw [b2.cells, b2.cells, b2.cells, List.getElem_set]
  have l1 : off + k * 3 + 1 < cur.size := (Array.getElem?_eq_some_iff.1 z1).1
  have l2 : off + k * 3 + 2 < cur.size := (Array.getElem?_eq_some_iff.1 z2).1
  by_cases hik : k = i
  · subst hik
    rw [if_pos rfl]
    refine ⟨?_, ?_, ?_⟩
    · rw [Array.getElem?_setIfInBounds_ne (by omega), Array.getElem?_setIfInBounds_ne (by omega)]
      exact a0
    · rw [Array.getElem?_setIfInBounds_ne (by omega), Array.getElem?_setIfInBounds_self_of_lt l1]
      have : (t != -1) = true := bne_iff_ne.2 (by omega)
      dsimp only
      rw [this]
    · rw [Array.getElem?_setIfInBounds_self_of_lt (by simpa using l2)]
      unfold ouW
      dsimp only
      rw [if_neg (by omega)]
  · rw [if_neg hik]
    refine ⟨?_, ?_, ?_⟩ <;> (rw [Array.getElem?_setIfInBounds_ne (by omega), Array.getElem?_setIfInBounds_ne (by omega)]; assumption)
/-- A sender on its way: the first k texts were looked at. -/
structure DrS (w : World) (b : Nat) (v : Value) (s : Snd) (t : Int) (k : Nat) (pv : Value) (W : World) : Prop where
  sd : RsV W b v (dueS s t k)
  tx : TxO w.heap.size W pv (lpk s.ep s.pt t s.first (s.left.take k))
  kp : Kp (b :: v.ownBlock.toList) w W
theorem DrS.al {w : World} {b : Nat} {v : Value} {s : Snd} {t : Int} {k : Nat} {pv : Value} {W W' : World} (h : DrS w b v s t k pv W) (hk : Kp [] W W') : DrS w b v s t k pv W' :=
  ⟨⟨h.sd.box.kp hk (by simp), h.sd.row.kp hk (by simp)⟩, h.tx.kp hk (by simp), h.kp.trans hk (by simp)⟩
theorem DrS.skip {w : World} {b : Nat} {v : Value} {s : Snd} {t : Int} {k : Nat} {pv : Value} {W : World} (h : DrS w b v s t k pv W) (hk : k < s.left.length) (hq : lagn s.pt t s.left[k] = false) : DrS w b v s t (k + 1) pv W := by
  refine ⟨?_, ?_, h.kp⟩
  · have := h.sd
    unfold dueS at this ⊢
    rw [lmks_skip hk hq]
    exact this
  · rw [lpk_take_succ _ _ _ _ _ _ hk, hq]
    simpa using h.tx
theorem dueS_len (s : Snd) (t : Int) (k : Nat) : (dueS s t k).left.length = s.left.length := by unfold dueS; dsimp only; rw [lmks_len]
/-- How its row lies. -/
theorem DrS.cells {b : Nat} {ad : Option Addr} {cap : Nat} {s : Snd} {t : Int} {k : Nat} {W : World} (h : RsV W b (.slice ad s.left.length cap) (dueS s t k)) (hk : 0 < s.left.length) : ∃ g off cur, ad = some ⟨g, off, none⟩ ∧ CBox g cur 68 W ∧ OuCs W g off (dueS s t k).left := by
  rcases h.row with ⟨e, _⟩ | ⟨g, off, cap', e, ⟨cur, hb⟩, _, _, hc⟩
  · injection e with _ e; omega
  · injection e with e
    exact ⟨g, off, cur, e, hb, hc⟩
theorem DrS.mark {w : World} {b g off cap : Nat} {s : Snd} {t : Int} {k : Nat} {pv : Value} {W : World} (h : DrS w b (.slice (some ⟨g, off, none⟩) s.left.length cap) s t k pv W) (hk : k < s.left.length) (hg : g < w.heap.size) (ht : 0 ≤ t) (hq : lagn s.pt t s.left[k] = true) :
    RsV ((W.setCell ⟨g, off + k * 3 + 1, none⟩ (.bool true)).setCell ⟨g, off + k * 3 + 2, none⟩ (.int .i64 t)) b (.slice (some ⟨g, off, none⟩) s.left.length cap) (dueS s t (k + 1)) ∧ TxO w.heap.size ((W.setCell ⟨g, off + k * 3 + 1, none⟩ (.bool true)).setCell ⟨g, off + k * 3 + 2, none⟩ (.int .i64 t)) pv (lpk s.ep s.pt t s.first (s.left.take k)) ∧ Kp (b :: (Value.slice (some ⟨g, off, none⟩) s.left.length cap).ownBlock.toList) w ((W.setCell ⟨g, off + k * 3 + 1, none⟩ (.bool true)).setCell ⟨g, off + k * 3 + 2, none⟩ (.int .i64 t)) := by
  obtain ⟨hk2, hat⟩ := dueS_at (t := t) hk
  have hset : Kp [g] W ((W.setCell ⟨g, off + k * 3 + 1, none⟩ (.bool true)).setCell ⟨g, off + k * 3 + 2, none⟩ (.int .i64 t)) := (Kp.set W g _ _).trans (Kp.set _ g _ _) (by simp)
  have hne : g ≠ b := h.sd.ne (k := g) rfl
  obtain ⟨g', off', cur, e, hb, hc⟩ := DrS.cells h.sd (by omega)
  injection e with e
  injection e with e1 e2
  subst e1 e2
  have hr2 := hc.set hb k hk2 t ht
  have el : (dueS s t k).left.set k ⟨((dueS s t k).left[k]).b, t⟩ = (dueS s t (k + 1)).left := by
    rw [hat]
    unfold dueS
    dsimp only
    rw [lmks_succ _ _ _ _ hk]
    unfold lmk
    rw [if_pos hq]
  rw [el] at hr2
  refine ⟨⟨?_, ?_⟩, h.tx.kp hset (fun j hj hm => ?_), h.kp.trans (hset.mono (G := b :: (Value.slice (some ⟨g, off, none⟩) s.left.length cap).ownBlock.toList) (by simp [Value.ownBlock])) (fun _ hx => Or.inl hx)⟩
  · exact h.sd.box.kp hset (by simpa using fun e => hne e.symm)
  · rcases h.sd.row with ⟨e, _⟩ | ⟨g', off', cap', e, _, c1, c2, _⟩
    · cases e
    · injection e with e1 e2 e3
      injection e1 with e1
      injection e1 with e1 e4
      subst e1 e3 e4
      rw [dueS_len] at c1
      exact Or.inr ⟨g, off, cap, by rw [dueS_len], ⟨_, (hb.set _ _).set _ _⟩, by rw [dueS_len]; exact c1, c2, hr2⟩
  · have := (h.tx.block hj).1
    simp at hm
    omega
theorem DrS.txt {b g off cap : Nat} {s : Snd} {t : Int} {k : Nat} {W : World} (h : RsV W b (.slice (some ⟨g, off, none⟩) s.left.length cap) (dueS s t (k + 1))) (hk : k < s.left.length) : W.cell? ⟨g, off + k * 3, none⟩ = some (.string (s.left[k]).b) := by
  obtain ⟨g', off', cur, e, hb, hc⟩ := DrS.cells h (by omega)
  injection e with e
  injection e with e1 e2
  subst e1 e2
  have h2 : k < (dueS s t (k + 1)).left.length := by rw [dueS_len]; exact hk
  have h3 := (hc k h2).1
  have h4 := lmks_at s.pt t (k + 1) s.left k hk
  rw [if_pos (by omega)] at h4
  have h5 : (dueS s t (k + 1)).left[k] = lmk s.pt t s.left[k] := h4
  rwa [h5, lmk_b] at h3
theorem DrS.next {w W1 V3 W' : World} {b : Nat} {v pv pv' : Value} {s : Snd} {t : Int} {k : Nat} {D : ByteArray} (h : RsV W1 b v (dueS s t (k + 1))) (h2 : TxO w.heap.size W1 pv (lpk s.ep s.pt t s.first (s.left.take k))) (h3 : Kp (b :: v.ownBlock.toList) w W1) (k3 : Kp [] W1 V3) (h4 : TxO w.heap.size W' pv' (lpk s.ep s.pt t s.first (s.left.take k) ++ [D])) (k4 : Kp pv.ownBlock.toList V3 W') (hlt : ∀ j ∈ b :: v.ownBlock.toList, j < w.heap.size) (he : lpk s.ep s.pt t s.first (s.left.take (k + 1)) = lpk s.ep s.pt t s.first (s.left.take k) ++ [D]) : DrS w b v s t (k + 1) pv' W' := by
  have hp : ∀ j, pv.ownBlock = some j → w.heap.size ≤ j := fun j hj => (h2.block hj).1
  have hn : ∀ j ∈ b :: v.ownBlock.toList, j ∉ pv.ownBlock.toList := fun j hj hm => by
    have := hlt j hj
    have := hp j (by simpa using hm)
    omega
  refine ⟨⟨(h.box.kp k3 (by simp)).kp k4 (hn b (List.mem_cons_self ..)), (h.row.kp k3 (by simp)).kp k4 (fun j hj => hn j (List.mem_cons_of_mem _ (by simpa using hj)))⟩, by rw [he]; exact h4, (h3.trans k3 (by simp)).trans k4 (fun j hj => Or.inr (hp j (by simpa using hj)))⟩
set_option maxHeartbeats 8000000 in
set_option maxRecDepth 100000 in
theorem rDue_any (B b : Nat) (s : Snd) (t : Int) (w : World) (h : RsAt B w b s) (hok : SOk s) (hBw : B ≤ w.heap.size) :
    Calls Try.prog 13 #[.pointer (some ⟨b, 0, none⟩), .int .i64 t] w fun e w' => ∃ v, e = .returned (.tuple #[v, .int .i64 (ldE s t)]) ∧ TxO w.heap.size w' v (ldO s t) ∧ RsAt B w' b (ldS s t) ∧ Ko rsO B w w' := by
  obtain ⟨v, hv, hB, hbv⟩ := id h
  have c5 : w.cell? ⟨b, 5, none⟩ = some (.int .i64 s.now) := hv.box.cell (i := 5) rfl
  have hn0 := hok.n0
  by_cases hr : t < s.now ∨ 1073741824 < t
  · have e1 : ldE s t = 1 := by unfold ldE; rw [if_pos hr]
    have e2 : ldS s t = s := by unfold ldS; rw [e1]; rfl
    have e3 : ldO s t = [] := by unfold ldO; rw [e1]; rfl
    have HH := hide (fun w' hk => rs_same (w' := w') h hk)
    rw [e1, e2, e3]
    by_cases h0 : t < 0
    · clear h hv hbv hok e1 e2 e3 hr
      go_enter Try.func13, Try.ntmps13
      go_wp2
      go_ret2
      exact ⟨_, rfl, TxO.nil _ _, unhide HH _ (Kp.refl _ _)⟩
    by_cases h2 : 1073741824 < t
    · clear h hv hbv hok e1 e2 e3 hr
      go_enter Try.func13, Try.ntmps13
      go_wp2
      go_ret2
      exact ⟨_, rfl, TxO.nil _ _, unhide HH _ (Kp.refl _ _)⟩
    · have h1 : t < s.now := by omega
      clear h hv hbv hok e1 e2 e3 hr
      go_enter Try.func13, Try.ntmps13
      go_wp2
      go_ret2
      exact ⟨_, rfl, TxO.nil _ _, unhide HH _ (Kp.refl _ _)⟩
  · have h1 : ¬ t < s.now := by omega
    have h2 : ¬ 1073741824 < t := by omega
    have h0 : ¬ t < 0 := by omega
    have e1 : ldE s t = 0 := by unfold ldE; rw [if_neg hr]
    have e2 : ldS s t = dueS s t s.wd := by unfold ldS; rw [if_pos e1]; rfl
    have e3 : ldO s t = lpk s.ep s.pt t s.first (s.left.take s.wd) := by unfold ldO; rw [if_pos e1]
    rw [e1, e2, e3]
    have hw1 := hok.w1
    have htop := hok.top
    have hp1 := hok.p1
    have hp0 := hok.p0
    have he0 := hok.e0
    have he1 := hok.e1
    have hsz : Hid (∀ x ∈ s.left, x.b.size ≤ 60000 ∧ -1 ≤ x.at_ ∧ x.at_ ≤ s.now) := hide hok.sz
    have fz := hv.box.froz 5
    obtain ⟨ad, cap, hvs⟩ := hv.row.slice
    obtain ⟨m, hm⟩ : ∃ m, m = min s.left.length s.wd := ⟨_, rfl⟩
    have HD0 : Hid (DrS w b v s t 0 (.slice none 0 0) (w.setCell ⟨b, 5, none⟩ (.int .i64 t))) := hide (by
      have hset := Kp.set w b 5 (.int .i64 t)
      refine ⟨⟨?_, ?_⟩, ?_, hset.mono (by simp)⟩
      · have := hv.box.set 5 (.int .i64 t)
        unfold dueS
        rw [lmks_zero]
        exact this
      · unfold dueS
        rw [lmks_zero]
        exact hv.row.kp hset (fun k hk => by simpa using hv.ne hk)
      · rw [List.take_zero]
        exact TxO.nil _ _)
    have HFIN : Hid (∀ pv W, DrS w b v s t m pv W → ∃ v', Ending.returned (.tuple #[pv, .int .i64 0]) = .returned (.tuple #[v', .int .i64 0]) ∧ TxO w.heap.size W v' (lpk s.ep s.pt t s.first (s.left.take s.wd)) ∧ RsAt B W b (dueS s t s.wd) ∧ Ko rsO B w W) := hide (fun pv W hd => by
      have em : s.left.take m = s.left.take s.wd := by
        rcases Nat.le_total s.left.length s.wd with h | h
        · rw [List.take_of_length_le (by omega), List.take_of_length_le h]
        · rw [show m = s.wd by omega]
      have es : dueS s t m = dueS s t s.wd := by
        unfold dueS
        congr 1
        rcases Nat.le_total s.left.length s.wd with h | h
        · rw [lmks_past _ _ s.wd _ h, show m = s.left.length by omega]
        · rw [show m = s.wd by omega]
      have ht := hd.tx
      rw [em] at ht
      have hs2 := hd.sd
      rw [es] at hs2
      exact ⟨pv, rfl, ht, rs_step hv hB hbv hd.kp hs2.box hs2.row (fun k hk => Or.inl hk) hBw⟩)
    have hmn : m ≤ s.left.length := by omega
    have hmw : m ≤ s.wd := by omega
    have hmo : s.left.length ≤ m ∨ s.wd ≤ m := by omega
    have hll := hok.len
    clear h e1 e2 e3 hok hm hB hbv
    subst hvs
    have hgw : ∀ g off, ad = some ⟨g, off, none⟩ → g < w.heap.size := fun g off e => by
      subst e
      obtain ⟨cur, hc⟩ := hv.row.block (k := g) rfl
      exact (Array.getElem?_eq_some_iff.1 hc).1
    have hadn : 0 < s.left.length → ∃ g off, ad = some ⟨g, off, none⟩ := fun h0 => by
      rcases hv.row with ⟨_, e⟩ | ⟨g, off, c, e, _⟩
      · rw [e] at h0; cases h0
      · injection e with e; exact ⟨g, off, e⟩
    have HAD := hide hadn
    have HGW := hide hgw
    have HBW := hide ((Array.getElem?_eq_some_iff.1 hv.box).1)
    clear hv hadn hgw
    have CEL : Hid (∀ k pv W, DrS w b (.slice ad s.left.length cap) s t k pv W → W.cell? ⟨b, 0, none⟩ = some (.int .i64 s.ep) ∧ W.cell? ⟨b, 1, none⟩ = some (.int .i64 (s.wd : Int)) ∧ W.cell? ⟨b, 2, none⟩ = some (.int .i64 s.pt) ∧ W.cell? ⟨b, 4, none⟩ = some (.int .i64 (s.first : Int)) ∧ W.cell? ⟨b, 3, none⟩ = some (.slice ad s.left.length cap)) := hide (fun k pv W hd => ⟨hd.sd.box.cell rfl, hd.sd.box.cell rfl, hd.sd.box.cell rfl, hd.sd.box.cell rfl, hd.sd.box.cell rfl⟩)
    go_enter Try.func13, Try.ntmps13
    go_upto_region 4 with fail
    obtain ⟨W0, hW0⟩ : ∃ W0, W0 = w.setCell ⟨b, 5, none⟩ (.int .i64 t) := ⟨_, rfl⟩
    rw [← hW0] at HD0 ⊢
    clear hW0 c5 fz
    go_wp2_with fail
    go_loopw [6, 7] (fun pv kv wr => ∃ k : Nat, k ≤ m ∧ kv = .int .i64 (k : Int) ∧ Hid (DrS w b (.slice ad s.left.length cap) s t k pv wr)) (fun _ kv _ => m - (intOf kv).toNat)
    case atStart => exact ⟨0, Nat.zero_le _, rfl, HD0⟩
    case round =>
      clear HD0
      obtain ⟨k, hkm, rfl, HD⟩ := hrel
      obtain ⟨pv, hpv⟩ : ∃ pv, pv = u6 := ⟨_, rfl⟩
      subst hpv
      by_cases hlt : k < m
      · have hkn : k < s.left.length := by omega
        have hkni : (k : Int) < (s.left.length : Int) := by omega
        have hkwi : (k : Int) < (s.wd : Int) := by omega
        obtain ⟨g, off, rfl⟩ := unhide HAD (by omega)
        have hgw := unhide HGW g off rfl
        obtain ⟨a0, a1, a2, a3, a4⟩ := unhide CEL _ _ _ (unhide HD)
        obtain ⟨hk2, hat⟩ := dueS_at (t := t) hkn
        have HXC : Hid (∀ W, Kp [] wr W → W.cell? ⟨g, off + k * 3 + 1, none⟩ = some (.bool ((s.left[k]).at_ != -1)) ∧ W.cell? ⟨g, off + k * 3 + 2, none⟩ = some (.int .i64 (ouW s.left[k])) ∧ W.frozen? ⟨g, off + k * 3 + 1, none⟩ = false ∧ (W.setCell ⟨g, off + k * 3 + 1, none⟩ (.bool true)).cell? ⟨g, off + k * 3 + 2, none⟩ = some (.int .i64 (ouW s.left[k])) ∧ (W.setCell ⟨g, off + k * 3 + 1, none⟩ (.bool true)).frozen? ⟨g, off + k * 3 + 2, none⟩ = false ∧ (W.setCell ⟨g, off + k * 3 + 1, none⟩ (.bool true)).cell? ⟨b, 3, none⟩ = some (.slice (some ⟨g, off, none⟩) s.left.length cap)) := hide (fun W hk => by
          have hd := (unhide HD).al hk
          obtain ⟨g', off', cur, e, hb, hc⟩ := DrS.cells hd.sd (by omega)
          injection e with e
          injection e with e1 e2
          subst e1 e2
          obtain ⟨_, y1, y2⟩ := hc k hk2
          rw [hat] at y1 y2
          have hb2 := hb.set (off + k * 3 + 1) (.bool true)
          have hne : g ≠ b := hd.sd.ne (k := g) rfl
          refine ⟨y1, y2, hb.froz _, ?_, hb2.froz _, ?_⟩
          · rw [hb2.cells, Array.getElem?_setIfInBounds_ne (by omega), ← hb.cells]
            exact y2
          · exact (hd.sd.box.kp (Kp.set W g _ _) (by simpa using fun e => hne e.symm)).cell (i := 3) rfl)
        obtain ⟨z1, z2, z3⟩ := unhide hsz s.left[k] (List.getElem_mem hkn)
        have hlt2 : Hid (∀ j ∈ b :: (Value.slice (some ⟨g, off, none⟩) s.left.length cap).ownBlock.toList, j < w.heap.size) := hide (fun j hj => by
          rcases List.mem_cons.1 hj with rfl | hj
          · exact unhide HBW
          · simp [Value.ownBlock] at hj
            omega)
        have HSK := hide (fun W hk hq => ((unhide HD).al (W' := W) hk).skip hkn hq)
        have HMK := hide (fun W hk hq => by
          obtain ⟨q1, q2, q3⟩ := ((unhide HD).al (W' := W) hk).mark hkn hgw (by omega) hq
          exact And.intro q1 (And.intro q2 (And.intro q3 (DrS.txt q1 hkn))))
        have HPK := hide (lpk_take_succ s.ep s.pt t s.first k s.left hkn)
        have HNX := hide (fun W1 V3 W' pv' D h1 h2 h3 h4 h5 h6 h7 => DrS.next (w := w) (W1 := W1) (V3 := V3) (W' := W') (b := b) (v := .slice (some ⟨g, off, none⟩) s.left.length cap) (pv := pv) (pv' := pv') (s := s) (t := t) (k := k) (D := D) h1 h2 h3 h4 h5 h6 (unhide hlt2) h7)
        clear hat hk2
        have HLG : Hid (lagn s.pt t s.left[k] = ((s.left[k]).at_ == -1 || decide (s.pt ≤ t - (s.left[k]).at_))) := hide rfl
        obtain ⟨x, hx⟩ : ∃ x, x = s.left[k] := ⟨_, rfl⟩
        have HXB0 : Hid (s.left[k] = x) := hide hx.symm
        rw [← hx] at z1 z2 z3 HLG HSK HMK HPK HXC
        clear hx
        obtain ⟨xb, xt⟩ := x
        have HXB : Hid ((s.left[k]).b = xb) := hide (by rw [unhide HXB0])
        clear HXB0
        dsimp only at *
        obtain ⟨x1, x2, _⟩ := unhide HXC wr (Kp.refl _ _)
        generalize lagn s.pt t ⟨xb, xt⟩ = Q at *
        go_upto_region 8 with fail
        go_cut [67] (fun qv wc => qv = .bool (!Q) ∧ Kp [] wr wc)
        case first =>
          by_cases hx : xt = -1
          · subst hx
            have HQ : Hid (Q = true) := hide (by rw [unhide HLG]; rfl)
            have x1 : wr.cell? ⟨g, off + k * 3 + 1, none⟩ = some (.bool false) := x1
            clear HSK HMK HPK HLG HXC
            go_quiet (fail)
            go_wp2
            go_meet
            exact ⟨by rw [unhide HQ]; rfl, Kp.drewQ _ _⟩
          · have hxb : (xt != -1) = true := bne_iff_ne.2 hx
            have hxe : (xt == -1) = false := beq_eq_false_iff_ne.2 hx
            have hxw : ouW ⟨xb, xt⟩ = xt := by unfold ouW; rw [if_neg hx]
            rw [hxb] at x1
            rw [hxw] at x2
            obtain ⟨D, hD⟩ : ∃ D, D = t - xt := ⟨_, rfl⟩
            have hDw : IntKind.i64.wrap (t - xt) = D := by rw [hD]; unfold IntKind.wrap; simp [IntKind.signed, go_sem]; omega
            have HQ : Hid (Q = decide (s.pt ≤ D)) := hide (by rw [unhide HLG, hxe, Bool.false_or, hD])
            clear HSK HMK HPK HLG hD hx hxe HXC hxb hxw
            by_cases h5 : D < s.pt
            · have q5 : decide (D < s.pt) = true := decide_eq_true h5
              go_quiet (fail)
              go_wp2
              go_meet
              exact ⟨by rw [unhide HQ, decide_eq_false (by omega)]; rfl, Kp.drewQ _ _⟩
            · have q5 : decide (D < s.pt) = false := decide_eq_false h5
              go_quiet (fail)
              go_wp2
              go_meet
              exact ⟨by rw [unhide HQ, decide_eq_true (by omega)]; rfl, Kp.drewQ _ _⟩
        case rest =>
          obtain ⟨rfl, kc⟩ := hcut
          clear x1 x2 a0 a1 a2 a3 a4
          cases Q with
          | false =>
            have HR := hide (unhide HSK wc kc rfl)
            clear HSK HMK HPK HLG HNX kc HD HXC
            go_wp2
            go_roundw
            case rel => exact ⟨k + 1, by omega, by go_num, HR⟩
            case measure => simp [intOf]; omega
          | true =>
            obtain ⟨y1, y2, f1, y3, f2, y4⟩ := unhide HXC wc kc
            have y5 : wc.cell? ⟨b, 3, none⟩ = some (.slice (some ⟨g, off, none⟩) s.left.length cap) := (unhide CEL _ _ _ ((unhide HD).al kc)).2.2.2.2
            have HM := hide (unhide HMK wc kc rfl)
            have HE := hide (show lpk s.ep s.pt t s.first (s.left.take (k + 1)) = lpk s.ep s.pt t s.first (s.left.take k) ++ [dataB s.ep ((s.first + k : Nat) : Int) xb] from unhide HPK)
            have LD := hide (fun W => rData_any s.ep ((s.first + k : Nat) : Int) xb W (by omega) (by omega) (by omega) (by omega) (by omega))
            have hlp : (lpk s.ep s.pt t s.first (s.left.take k)).length ≤ 1000000 := by
              have := lpk_len s.ep s.pt t s.first (s.left.take k)
              rw [List.length_take] at this
              omega
            clear HSK HMK HPK HLG kc HD HXC
            go_upto_region 11 with fail
            obtain ⟨W1, hW1⟩ : ∃ W1, W1 = (wc.setCell ⟨g, off + k * 3 + 1, none⟩ (.bool true)).setCell ⟨g, off + k * 3 + 2, none⟩ (.int .i64 t) := ⟨_, rfl⟩
            rw [← hW1] at HM ⊢
            clear hW1 f1 f2 y1 y2 y3 y4 y5
            obtain ⟨q1, q2, q3, q4⟩ := unhide HM
            obtain ⟨V, hV⟩ : ∃ V, V = W1.drew := ⟨_, rfl⟩
            have KV : Hid (Kp [] W1 V) := hide (by rw [hV]; exact Kp.drew _)
            have HSS : Hid (∀ W, Kp [] W1 W → W.cell? ⟨b, 0, none⟩ = some (.int .i64 s.ep) ∧ W.cell? ⟨b, 4, none⟩ = some (.int .i64 (s.first : Int)) ∧ W.cell? ⟨b, 3, none⟩ = some (.slice (some ⟨g, off, none⟩) s.left.length cap) ∧ W.cell? ⟨g, off + k * 3, none⟩ = some (.string xb)) := hide (fun W hk => ⟨(q1.box.kp hk (by simp)).cell rfl, (q1.box.kp hk (by simp)).cell rfl, (q1.box.kp hk (by simp)).cell rfl, hk.cell q4 (by simp)⟩)
            have HTX : Hid (∀ W, Kp [] W1 W → TxO w.heap.size W pv (lpk s.ep s.pt t s.first (s.left.take k)) ∧ w.heap.size ≤ W.heap.size) := hide (fun W hk => ⟨q2.kp hk (by simp), Nat.le_trans q3.size hk.size⟩)
            obtain ⟨pad, pcp, rfl, _⟩ := q2.form
            have HTXT : Hid (∀ W' pv', DrS w b (.slice (some ⟨g, off, none⟩) s.left.length cap) s t (k + 1) pv' W' → W'.cell? ⟨g, off + k * 3, none⟩ = some (.string xb)) := hide (fun W' pv' hd => by
              have := DrS.txt hd.sd hkn
              rwa [unhide HXB] at this)
            have HNX2 := hide (fun V3 W' pv' h4 h5 h6 => unhide HNX W1 V3 W' pv' (dataB s.ep ((s.first + k : Nat) : Int) xb) q1 q2 q3 h4 h5 h6 (unhide HE))
            have hfk : IntKind.i64.wrap ((s.first : Int) + (k : Int)) = ((s.first + k : Nat) : Int) := by unfold IntKind.wrap; simp [IntKind.signed, go_sem]; omega
            clear q1 q2 q3 q4 HM HNX HE
            generalize dataB s.ep ((s.first + k : Nat) : Int) xb = D at *
            generalize hL : lpk s.ep s.pt t s.first (s.left.take k) = L at *
            clear hL
            generalize ((s.first + k : Nat) : Int) = N at *
            refine wp_region_held_drew (S := fun W => W.cell? ⟨b, 0, none⟩ = some (.int .i64 s.ep) ∧ W.cell? ⟨b, 4, none⟩ = some (.int .i64 (s.first : Int)) ∧ W.cell? ⟨b, 3, none⟩ = some (.slice (some ⟨g, off, none⟩) s.left.length cap) ∧ W.cell? ⟨g, off + k * 3, none⟩ = some (.string xb)) (by kernel_rfl) (by rw [← hV]; exact unhide HSS V (unhide KV)) (fun hHeld => ?_)
            rw [← hV] at hHeld ⊢
            clear hV
            show wpAnyH _ _ _ _ _ 23 (Array.replicate 23 false) _ _
            refine wpAnyH_take (i := 0) (oi := { dst := some 83, op := Op.move (Operand.tmp 6), type := 39, pos := "ref.go:70", after := #[], guard := none }) (v := ?_) rfl (by kernel_rfl) (by kernel_rfl) (by kernel_rfl) (fun _ _ _ h => h) (Or.inl ⟨by rfl, ?_⟩) (by assumption) ?_
            rotate_left 1
            · intro w0 hSw
              (try dsimp only at hSw)
              go_simp
              (try with_reducible rfl)
            try simp only [Act.put, List.setIfInBounds_toArray, List.set_cons_zero, List.set_cons_succ]
            refine wpAnyH_take (i := 1) (oi := { dst := some 84, op := Op.move (Operand.tmp 0), type := 29, pos := "ref.go:70", after := #[], guard := none }) (v := ?_) rfl (by kernel_rfl) (by kernel_rfl) (by kernel_rfl) (fun _ _ _ h => h) (Or.inl ⟨by rfl, ?_⟩) (by assumption) ?_
            rotate_left 1
            · intro w0 hSw
              (try dsimp only at hSw)
              go_simp
              (try with_reducible rfl)
            try simp only [Act.put, List.setIfInBounds_toArray, List.set_cons_zero, List.set_cons_succ]
            refine wpAnyH_take (i := 2) (oi := { dst := some 85, op := Op.nilCheck (Operand.tmp 84), type := 0, pos := "ref.go:70", after := #[{ on := 1, ground := Ground.data }], guard := none }) (v := ?_) rfl (by kernel_rfl) (by kernel_rfl) (by kernel_rfl) (fun _ _ _ h => h) (Or.inl ⟨by rfl, ?_⟩) (by assumption) ?_
            rotate_left 1
            · intro w0 hSw
              (try dsimp only at hSw)
              go_simp
              (try with_reducible rfl)
            try simp only [Act.put, List.setIfInBounds_toArray, List.set_cons_zero, List.set_cons_succ]
            refine wpAnyH_take (i := 3) (oi := { dst := some 86, op := Op.fieldAddr 52 (Operand.tmp 85) 0, type := 0, pos := "ref.go:70", after := #[{ on := 2, ground := Ground.data }], guard := none }) (v := ?_) rfl (by kernel_rfl) (by kernel_rfl) (by kernel_rfl) (fun _ _ _ h => h) (Or.inl ⟨by rfl, ?_⟩) (by assumption) ?_
            rotate_left 1
            · intro w0 hSw
              (try dsimp only at hSw)
              go_simp
              (try with_reducible rfl)
            try simp only [Act.put, List.setIfInBounds_toArray, List.set_cons_zero, List.set_cons_succ]
            refine wpAnyH_take (i := 4) (oi := { dst := some 87, op := Op.load 3 (Operand.tmp 86), type := 3, pos := "ref.go:70", after := #[{ on := 3, ground := Ground.data }], guard := none }) (v := ?_) rfl (by kernel_rfl) (by kernel_rfl) (by kernel_rfl) (fun _ _ _ h => h) (Or.inl ⟨by rfl, ?_⟩) (by assumption) ?_
            rotate_left 1
            · intro w0 hSw
              (try dsimp only at hSw)
              go_simp
              (try with_reducible rfl)
            try simp only [Act.put, List.setIfInBounds_toArray, List.set_cons_zero, List.set_cons_succ]
            refine wpAnyH_take (i := 5) (oi := { dst := some 88, op := Op.move (Operand.tmp 0), type := 29, pos := "ref.go:70", after := #[], guard := none }) (v := ?_) rfl (by kernel_rfl) (by kernel_rfl) (by kernel_rfl) (fun _ _ _ h => h) (Or.inl ⟨by rfl, ?_⟩) (by assumption) ?_
            rotate_left 1
            · intro w0 hSw
              (try dsimp only at hSw)
              go_simp
              (try with_reducible rfl)
            try simp only [Act.put, List.setIfInBounds_toArray, List.set_cons_zero, List.set_cons_succ]
            refine wpAnyH_take (i := 6) (oi := { dst := some 89, op := Op.nilCheck (Operand.tmp 88), type := 0, pos := "ref.go:70", after := #[{ on := 5, ground := Ground.data }], guard := none }) (v := ?_) rfl (by kernel_rfl) (by kernel_rfl) (by kernel_rfl) (fun _ _ _ h => h) (Or.inl ⟨by rfl, ?_⟩) (by assumption) ?_
            rotate_left 1
            · intro w0 hSw
              (try dsimp only at hSw)
              go_simp
              (try with_reducible rfl)
            try simp only [Act.put, List.setIfInBounds_toArray, List.set_cons_zero, List.set_cons_succ]
            refine wpAnyH_take (i := 7) (oi := { dst := some 90, op := Op.fieldAddr 52 (Operand.tmp 89) 4, type := 0, pos := "ref.go:70", after := #[{ on := 6, ground := Ground.data }], guard := none }) (v := ?_) rfl (by kernel_rfl) (by kernel_rfl) (by kernel_rfl) (fun _ _ _ h => h) (Or.inl ⟨by rfl, ?_⟩) (by assumption) ?_
            rotate_left 1
            · intro w0 hSw
              (try dsimp only at hSw)
              go_simp
              (try with_reducible rfl)
            try simp only [Act.put, List.setIfInBounds_toArray, List.set_cons_zero, List.set_cons_succ]
            refine wpAnyH_take (i := 8) (oi := { dst := some 91, op := Op.load 3 (Operand.tmp 90), type := 3, pos := "ref.go:70", after := #[{ on := 7, ground := Ground.data }], guard := none }) (v := ?_) rfl (by kernel_rfl) (by kernel_rfl) (by kernel_rfl) (fun _ _ _ h => h) (Or.inl ⟨by rfl, ?_⟩) (by assumption) ?_
            rotate_left 1
            · intro w0 hSw
              (try dsimp only at hSw)
              go_simp
              (try with_reducible rfl)
            try simp only [Act.put, List.setIfInBounds_toArray, List.set_cons_zero, List.set_cons_succ]
            refine wpAnyH_take (i := 9) (oi := { dst := some 92, op := Op.move (Operand.tmp 7), type := 3, pos := "ref.go:70", after := #[], guard := none }) (v := ?_) rfl (by kernel_rfl) (by kernel_rfl) (by kernel_rfl) (fun _ _ _ h => h) (Or.inl ⟨by rfl, ?_⟩) (by assumption) ?_
            rotate_left 1
            · intro w0 hSw
              (try dsimp only at hSw)
              go_simp
              (try with_reducible rfl)
            try simp only [Act.put, List.setIfInBounds_toArray, List.set_cons_zero, List.set_cons_succ]
            refine wpAnyH_take (i := 10) (oi := { dst := some 93, op := Op.binOp BinOp.add 3 (Operand.tmp 91) (Operand.tmp 92) 3, type := 3, pos := "ref.go:70", after := #[{ on := 8, ground := Ground.data }, { on := 9, ground := Ground.data }], guard := none }) (v := ?_) rfl (by kernel_rfl) (by kernel_rfl) (by kernel_rfl) (fun _ _ _ h => h) (Or.inl ⟨by rfl, ?_⟩) (by assumption) ?_
            rotate_left 1
            · intro w0 hSw
              (try dsimp only at hSw)
              go_simp
              (try with_reducible rfl)
            try simp only [Act.put, List.setIfInBounds_toArray, List.set_cons_zero, List.set_cons_succ]
            refine wpAnyH_take (i := 11) (oi := { dst := some 94, op := Op.move (Operand.tmp 0), type := 29, pos := "ref.go:70", after := #[], guard := none }) (v := ?_) rfl (by kernel_rfl) (by kernel_rfl) (by kernel_rfl) (fun _ _ _ h => h) (Or.inl ⟨by rfl, ?_⟩) (by assumption) ?_
            rotate_left 1
            · intro w0 hSw
              (try dsimp only at hSw)
              go_simp
              (try with_reducible rfl)
            try simp only [Act.put, List.setIfInBounds_toArray, List.set_cons_zero, List.set_cons_succ]
            refine wpAnyH_take (i := 12) (oi := { dst := some 95, op := Op.nilCheck (Operand.tmp 94), type := 0, pos := "ref.go:70", after := #[{ on := 11, ground := Ground.data }], guard := none }) (v := ?_) rfl (by kernel_rfl) (by kernel_rfl) (by kernel_rfl) (fun _ _ _ h => h) (Or.inl ⟨by rfl, ?_⟩) (by assumption) ?_
            rotate_left 1
            · intro w0 hSw
              (try dsimp only at hSw)
              go_simp
              (try with_reducible rfl)
            try simp only [Act.put, List.setIfInBounds_toArray, List.set_cons_zero, List.set_cons_succ]
            refine wpAnyH_take (i := 13) (oi := { dst := some 96, op := Op.fieldAddr 52 (Operand.tmp 95) 3, type := 0, pos := "ref.go:70", after := #[{ on := 12, ground := Ground.data }], guard := none }) (v := ?_) rfl (by kernel_rfl) (by kernel_rfl) (by kernel_rfl) (fun _ _ _ h => h) (Or.inl ⟨by rfl, ?_⟩) (by assumption) ?_
            rotate_left 1
            · intro w0 hSw
              (try dsimp only at hSw)
              go_simp
              (try with_reducible rfl)
            try simp only [Act.put, List.setIfInBounds_toArray, List.set_cons_zero, List.set_cons_succ]
            refine wpAnyH_take (i := 14) (oi := { dst := some 97, op := Op.load 50 (Operand.tmp 96), type := 50, pos := "ref.go:70", after := #[{ on := 13, ground := Ground.data }], guard := none }) (v := ?_) rfl (by kernel_rfl) (by kernel_rfl) (by kernel_rfl) (fun _ _ _ h => h) (Or.inl ⟨by rfl, ?_⟩) (by assumption) ?_
            rotate_left 1
            · intro w0 hSw
              (try dsimp only at hSw)
              go_simp
              (try with_reducible rfl)
            try simp only [Act.put, List.setIfInBounds_toArray, List.set_cons_zero, List.set_cons_succ]
            refine wpAnyH_take (i := 15) (oi := { dst := some 98, op := Op.move (Operand.tmp 7), type := 3, pos := "ref.go:70", after := #[], guard := none }) (v := ?_) rfl (by kernel_rfl) (by kernel_rfl) (by kernel_rfl) (fun _ _ _ h => h) (Or.inl ⟨by rfl, ?_⟩) (by assumption) ?_
            rotate_left 1
            · intro w0 hSw
              (try dsimp only at hSw)
              go_simp
              (try with_reducible rfl)
            try simp only [Act.put, List.setIfInBounds_toArray, List.set_cons_zero, List.set_cons_succ]
            refine wpAnyH_take (i := 16) (oi := { dst := some 99, op := Op.indexAddr 50 (Operand.tmp 97) (Operand.tmp 98), type := 0, pos := "ref.go:70", after := #[{ on := 14, ground := Ground.data }, { on := 15, ground := Ground.data }], guard := none }) (v := ?_) rfl (by kernel_rfl) (by kernel_rfl) (by kernel_rfl) (fun _ _ _ h => h) (Or.inl ⟨by rfl, ?_⟩) (by assumption) ?_
            rotate_left 1
            · intro w0 hSw
              (try dsimp only at hSw)
              go_simp
              (try with_reducible rfl)
            try simp only [Act.put, List.setIfInBounds_toArray, List.set_cons_zero, List.set_cons_succ]
            refine wpAnyH_take (i := 17) (oi := { dst := some 100, op := Op.fieldAddr 68 (Operand.tmp 99) 0, type := 0, pos := "ref.go:70", after := #[{ on := 16, ground := Ground.data }], guard := none }) (v := ?_) rfl (by kernel_rfl) (by kernel_rfl) (by kernel_rfl) (fun _ _ _ h => h) (Or.inl ⟨by rfl, ?_⟩) (by assumption) ?_
            rotate_left 1
            · intro w0 hSw
              (try dsimp only at hSw)
              go_simp
              (try with_reducible rfl)
            try simp only [Act.put, List.setIfInBounds_toArray, List.set_cons_zero, List.set_cons_succ]
            refine wpAnyH_take (i := 18) (oi := { dst := some 101, op := Op.load 9 (Operand.tmp 100), type := 9, pos := "ref.go:70", after := #[{ on := 17, ground := Ground.data }], guard := none }) (v := ?_) rfl (by kernel_rfl) (by kernel_rfl) (by kernel_rfl) (fun _ _ _ h => h) (Or.inl ⟨by rfl, ?_⟩) (by assumption) ?_
            rotate_left 1
            · intro w0 hSw
              (try dsimp only at hSw)
              go_simp
              (try with_reducible rfl)
            try simp only [Act.put, List.setIfInBounds_toArray, List.set_cons_zero, List.set_cons_succ]
            refine wpAnyH_ready (rs := [19]) (by kernel_rfl) (by simp) ?_
            refine AllReadyH.cons (o := { dst := some 102, op := Op.call { callee := Callee.value (Operand.func 26), args := #[Operand.tmp 87, Operand.tmp 93, Operand.tmp 101], argTypes := #[3, 3, 9] }, type := 9, pos := "ref.go:70", after := #[{ on := 4, ground := Ground.data }, { on := 10, ground := Ground.data }, { on := 18, ground := Ground.data }], guard := none }) rfl (fun K hK => ?_) (AllReadyH.nil)
            go_simp
            refine (unhide LD V).mono ?_
            rintro e V2 ⟨rfl, kb⟩
            have KV2 : Hid (Kp [] W1 V2) := hide ((unhide KV).trans (Kp.ofBelow kb) (by simp))
            clear kb KV
            refine hK.out _ _ ?_ (fun hHeld => ?_)
            · exact unhide HSS _ (unhide KV2)
            clear hK K
            try simp only [Act.put, List.setIfInBounds_toArray, List.set_cons_zero, List.set_cons_succ]
            refine wpAnyH_ready (rs := [20]) (by kernel_rfl) (by simp) ?_
            refine AllReadyH.cons (o := { dst := some 103, op := Op.buildSlice 39 1 #[(0, Operand.tmp 102)], type := 39, pos := "ref.go:70", after := #[{ on := 19, ground := Ground.data }], guard := none }) rfl (fun K hK => ?_) (AllReadyH.nil)
            go_simp
            have KV3 : Hid (Kp [] W1 (V2.alloc (.cells #[.string D] 9))) := hide ((unhide KV2).trans (Kp.alloc _ _) (by simp))
            have NB := hide (CBox.new V2 #[.string D] 9)
            refine hK.out _ _ ?_ (fun hHeld => ?_)
            · exact unhide HSS _ (unhide KV3)
            clear hK K
            try simp only [Act.put, List.setIfInBounds_toArray, List.set_cons_zero, List.set_cons_succ]
            generalize V2.alloc (.cells #[.string D] 9) = V3 at *
            generalize V2.heap.size = g3 at *
            obtain ⟨tx3, sz3⟩ := unhide HTX V3 (unhide KV3)
            obtain ⟨pv', W', hrun, tx4, k4, _⟩ := tx3.push sz3 (unhide NB) hlp 39
            have HN4 := hide (unhide HNX2 V3 W' pv' (unhide KV3) tx4 k4)
            have HS4 := hide (show W'.cell? ⟨b, 0, none⟩ = some (.int .i64 s.ep) ∧ W'.cell? ⟨b, 4, none⟩ = some (.int .i64 (s.first : Int)) ∧ W'.cell? ⟨b, 3, none⟩ = some (.slice (some ⟨g, off, none⟩) s.left.length cap) ∧ W'.cell? ⟨g, off + k * 3, none⟩ = some (.string xb) from ⟨(unhide HN4).sd.box.cell rfl, (unhide HN4).sd.box.cell rfl, (unhide HN4).sd.box.cell rfl, (unhide HTXT) W' pv' (unhide HN4)⟩)
            refine wpAnyH_ready (rs := [21]) (by kernel_rfl) (by simp) ?_
            refine AllReadyH.cons (o := { dst := some 104, op := Op.call { callee := Callee.builtin Builtin.append, args := #[Operand.tmp 83, Operand.tmp 103], argTypes := #[39, 39] }, type := 39, pos := "ref.go:70", after := #[{ on := 0, ground := Ground.data }, { on := 20, ground := Ground.data }, { on := 19, ground := Ground.chain }], guard := none }) rfl (fun K hK => ?_) (AllReadyH.nil)
            refine step_app_run rfl (.tmp 83) (.tmp 103) 39 rfl rfl rfl hrun ?_
            refine hK.out _ _ ?_ (fun hHeld => ?_)
            · exact unhide HS4
            clear hK K
            try simp only [Act.put, List.setIfInBounds_toArray, List.set_cons_zero, List.set_cons_succ]
            refine wpAnyH_take (i := 22) (oi := { dst := some 6, op := Op.assign (Operand.tmp 104), type := 39, pos := "ref.go:70", after := #[{ on := 21, ground := Ground.data }, { on := 21, ground := Ground.chain }, { on := 0, ground := Ground.phase }, { on := 1, ground := Ground.phase }, { on := 2, ground := Ground.phase }, { on := 3, ground := Ground.phase }, { on := 4, ground := Ground.phase }, { on := 5, ground := Ground.phase }, { on := 6, ground := Ground.phase }, { on := 7, ground := Ground.phase }, { on := 8, ground := Ground.phase }, { on := 9, ground := Ground.phase }, { on := 10, ground := Ground.phase }, { on := 11, ground := Ground.phase }, { on := 12, ground := Ground.phase }, { on := 13, ground := Ground.phase }, { on := 14, ground := Ground.phase }, { on := 15, ground := Ground.phase }, { on := 16, ground := Ground.phase }, { on := 17, ground := Ground.phase }, { on := 18, ground := Ground.phase }, { on := 19, ground := Ground.phase }, { on := 20, ground := Ground.phase }, { on := 21, ground := Ground.phase }], guard := none }) (v := ?_) rfl (by kernel_rfl) (by kernel_rfl) (by kernel_rfl) (fun _ _ _ h => h) (Or.inl ⟨by rfl, ?_⟩) (by assumption) ?_
            rotate_left 1
            · intro w0 hSw
              (try dsimp only at hSw)
              go_simp
              (try with_reducible rfl)
            try simp only [Act.put, List.setIfInBounds_toArray, List.set_cons_zero, List.set_cons_succ]
            refine wpAnyH_done (by kernel_rfl) ?_ _
            clear tx3 sz3 tx4 k4 hrun HS4 NB KV3 HTX HSS HNX2 LD
            go_wp2
            go_roundw
            case rel => exact ⟨k + 1, by omega, by go_num, HN4⟩
            case measure => simp [intOf]; omega
      · obtain rfl : k = m := by omega
        obtain ⟨a0, a1, a2, a3, a4⟩ := unhide CEL _ _ _ (unhide HD)
        have HF := hide (unhide HFIN pv wr (unhide HD))
        clear HD HFIN CEL
        by_cases h6 : s.left.length ≤ k
        · have hkni : ¬ (k : Int) < (s.left.length : Int) := by omega
          go_wp2
          go_ret2
          exact unhide HF
        · have hkni : (k : Int) < (s.left.length : Int) := by omega
          have hkwi : ¬ (k : Int) < (s.wd : Int) := by omega
          go_wp2
          go_ret2
          exact unhide HF
end Go.Proofs.Ytiomngpfolkgpaa
