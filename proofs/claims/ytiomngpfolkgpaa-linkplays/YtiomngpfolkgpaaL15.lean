/-
  Links: what is due.
-/
import Derived.Test.YtiomngpfolkgpaaL13
import Derived.Test.YtiomngpfolkgpaaL14
import Derived.Test.YtiomngpfolkgpaaL10
import Derived.Lib.MinMax
import Derived.Deep.DeepCutAuto
namespace Go.Proofs.Ytiomngpfolkgpaa
open Go.RowKit Lk

/-- A sender on its way: the first k texts were looked at. -/
def dueS (s : Snd) (t : Int) (k : Nat) : Snd := ⟨s.ep, s.wd, s.pt, s.first, lmks s.pt t k s.left, t⟩
structure DuS (w : World) (b : Nat) (v : Value) (s : Snd) (t : Int) (k : Nat) (pv : Value) (W : World) : Prop where
  sd : SdV W b v (dueS s t k)
  tx : TxO w.heap.size W pv (lpk s.ep s.pt t s.first (s.left.take k))
  kp : Kp (b :: v.ownBlock.toList) w W
theorem DuS.al {w : World} {b : Nat} {v : Value} {s : Snd} {t : Int} {k : Nat} {pv : Value} {W W' : World} (h : DuS w b v s t k pv W) (hk : Kp [] W W') : DuS w b v s t k pv W' :=
  ⟨⟨h.sd.box.kp hk (by simp), h.sd.row.kp hk (by simp)⟩, h.tx.kp hk (by simp), h.kp.trans hk (by simp)⟩
theorem dueS_at {s : Snd} {t : Int} {k : Nat} (hk : k < s.left.length) : ∃ h : k < (dueS s t k).left.length, (dueS s t k).left[k] = s.left[k] := by
  have h : k < (dueS s t k).left.length := by unfold dueS; dsimp only; rw [lmks_len]; exact hk
  refine ⟨h, ?_⟩
  have := lmks_at s.pt t k s.left k hk
  rw [if_neg (by omega)] at this
  exact this
/-- A text that is not due: passed over. -/
theorem DuS.skip {w : World} {b : Nat} {v : Value} {s : Snd} {t : Int} {k : Nat} {pv : Value} {W : World} (h : DuS w b v s t k pv W) (hk : k < s.left.length) (hq : lagn s.pt t s.left[k] = false) : DuS w b v s t (k + 1) pv W := by
  have e : lmks s.pt t (k + 1) s.left = lmks s.pt t k s.left := by
    rw [lmks_succ _ _ _ _ hk]
    unfold lmk
    rw [hq]
    have := lmks_at s.pt t k s.left k hk
    rw [if_neg (by omega)] at this
    refine List.ext_getElem? fun j => ?_
    rw [List.getElem?_set]
    split
    · rename_i e
      subst e
      rw [if_pos (by rw [lmks_len]; exact hk), List.getElem?_eq_getElem (by rw [lmks_len]; exact hk), this]
      rfl
    · rfl
  refine ⟨?_, ?_, h.kp⟩
  · have := h.sd
    unfold dueS at this ⊢
    rw [e]
    exact this
  · rw [lpk_take_succ _ _ _ _ _ _ hk, hq]
    simpa using h.tx
/-- A text that is sent now: its tick. -/
theorem DuS.mark {w : World} {b g cap : Nat} {s : Snd} {t : Int} {k : Nat} {pv : Value} {W : World} (h : DuS w b (.slice (some ⟨g, 0, none⟩) s.left.length cap) s t k pv W) (hk : k < s.left.length) (hg : g < w.heap.size) (hq : lagn s.pt t s.left[k] = true) :
    SdV (W.setCell ⟨g, k * 2 + 1, none⟩ (.int .i64 t)) b (.slice (some ⟨g, 0, none⟩) s.left.length cap) (dueS s t (k + 1)) ∧ TxO w.heap.size (W.setCell ⟨g, k * 2 + 1, none⟩ (.int .i64 t)) pv (lpk s.ep s.pt t s.first (s.left.take k)) ∧ Kp (b :: (Value.slice (some ⟨g, 0, none⟩) s.left.length cap).ownBlock.toList) w (W.setCell ⟨g, k * 2 + 1, none⟩ (.int .i64 t)) := by
  obtain ⟨hk2, hat⟩ := dueS_at (t := t) hk
  have hset := Kp.set W g (k * 2 + 1) (.int .i64 t)
  have hne : g ≠ b := h.sd.ne (k := g) rfl
  have hll : (dueS s t k).left.length = s.left.length := by unfold dueS; dsimp only; rw [lmks_len]
  have hr := h.sd.row
  rw [← hll] at hr
  have hr2 := hr.tick k hk2 t
  have el : (dueS s t k).left.set k ⟨((dueS s t k).left[k]).b, t⟩ = (dueS s t (k + 1)).left := by
    rw [hat]
    unfold dueS
    dsimp only
    rw [lmks_succ _ _ _ _ hk]
    unfold lmk
    rw [if_pos hq]
  rw [el, hll] at hr2
  refine ⟨⟨?_, hr2⟩, h.tx.kp hset (fun j hj hm => ?_), h.kp.trans (hset.mono (G := b :: (Value.slice (some ⟨g, 0, none⟩) s.left.length cap).ownBlock.toList) (by simp [Value.ownBlock])) (fun _ hx => Or.inl hx)⟩
  · exact h.sd.box.kp hset (by simpa using fun e => hne e.symm)
  · have := (h.tx.block hj).1
    simp at hm
    omega
theorem DuS.txt {b g cap : Nat} {s : Snd} {t : Int} {k : Nat} {W : World} (h : SdV W b (.slice (some ⟨g, 0, none⟩) s.left.length cap) (dueS s t (k + 1))) (hk : k < s.left.length) : W.cell? ⟨g, k * 2, none⟩ = some (.string (s.left[k]).b) := by
  have h2 : k < (dueS s t (k + 1)).left.length := by unfold dueS; dsimp only; rw [lmks_len]; exact hk
  have h3 := (h.row.cell k h2).1
  have h4 := lmks_at s.pt t (k + 1) s.left k hk
  rw [if_pos (by omega)] at h4
  have h5 : (dueS s t (k + 1)).left[k] = lmk s.pt t s.left[k] := h4
  rwa [h5, lmk_b] at h3
theorem DuS.next {w W1 V3 W' : World} {b : Nat} {v pv pv' : Value} {s : Snd} {t : Int} {k : Nat} {D : ByteArray} (h : SdV W1 b v (dueS s t (k + 1))) (h2 : TxO w.heap.size W1 pv (lpk s.ep s.pt t s.first (s.left.take k))) (h3 : Kp (b :: v.ownBlock.toList) w W1) (k3 : Kp [] W1 V3) (h4 : TxO w.heap.size W' pv' (lpk s.ep s.pt t s.first (s.left.take k) ++ [D])) (k4 : Kp pv.ownBlock.toList V3 W') (hlt : ∀ j ∈ b :: v.ownBlock.toList, j < w.heap.size) (he : lpk s.ep s.pt t s.first (s.left.take (k + 1)) = lpk s.ep s.pt t s.first (s.left.take k) ++ [D]) : DuS w b v s t (k + 1) pv' W' := by
  have hp : ∀ j, pv.ownBlock = some j → w.heap.size ≤ j := fun j hj => (h2.block hj).1
  have hn : ∀ j ∈ b :: v.ownBlock.toList, j ∉ pv.ownBlock.toList := fun j hj hm => by
    have := hlt j hj
    have := hp j (by simpa using hm)
    omega
  refine ⟨⟨(h.box.kp k3 (by simp)).kp k4 (hn b (List.mem_cons_self ..)), (h.row.kp k3 (by simp)).kp k4 (fun j hj => hn j (List.mem_cons_of_mem _ (by simpa using hj)))⟩, by rw [he]; exact h4, (h3.trans k3 (by simp)).trans k4 (fun j hj => Or.inr (hp j (by simpa using hj)))⟩
set_option maxHeartbeats 8000000 in
set_option maxRecDepth 100000 in
theorem lDue_any (B b : Nat) (s : Snd) (t : Int) (w : World) (h : SdAt B w b s) (hok : SOk s) :
    Calls Try.prog 12 #[.pointer (some ⟨b, 0, none⟩), .int .i64 t] w fun e w' => ∃ v, e = .returned (.tuple #[v, .int .i64 (ldE s t)]) ∧ TxO w.heap.size w' v (ldO s t) ∧ SdAt B w' b (ldS s t) ∧ Ko sdO B w w' := by
  obtain ⟨v, hv, hB, hbv⟩ := id h
  have c5 : w.cell? ⟨b, 5, none⟩ = some (.int .i64 s.now) := hv.box.cell (i := 5) rfl
  by_cases hr : t < s.now ∨ 1073741824 < t
  · have e1 : ldE s t = 1 := by unfold ldE; rw [if_pos hr]
    have e2 : ldS s t = s := by unfold ldS; rw [e1]; rfl
    have e3 : ldO s t = [] := by unfold ldO; rw [e1]; rfl
    have HH := hide (fun w' hk => sd_same (w' := w') h hk)
    rw [e1, e2, e3]
    by_cases h1 : t < s.now
    · clear h hv hbv hok e1 e2 e3 hr
      go_enter Try.func12, Try.ntmps12
      go_wp2
      go_ret2
      exact ⟨_, rfl, TxO.nil _ _, unhide HH _ (Kp.refl _ _)⟩
    · have h2 : 1073741824 < t := by omega
      clear h hv hbv hok e1 e2 e3 hr
      go_enter Try.func12, Try.ntmps12
      go_wp2
      go_ret2
      exact ⟨_, rfl, TxO.nil _ _, unhide HH _ (Kp.refl _ _)⟩
  · have h1 : ¬ t < s.now := by omega
    have h2 : ¬ 1073741824 < t := by omega
    have e1 : ldE s t = 0 := by unfold ldE; rw [if_neg hr]
    have e2 : ldS s t = dueS s t s.wd := by unfold ldS; rw [if_pos e1]; rfl
    have e3 : ldO s t = lpk s.ep s.pt t s.first (s.left.take s.wd) := by unfold ldO; rw [if_pos e1]
    rw [e1, e2, e3]
    have hn0 := hok.n0
    have hw1 := hok.w1
    have htop := hok.top
    have hp1 := hok.p1
    have hp0 := hok.p0
    have he0 := hok.e0
    have he1 := hok.e1
    have hsz : Hid (∀ x ∈ s.left, x.b.size ≤ 60000 ∧ -1 ≤ x.at_ ∧ x.at_ ≤ s.now) := hide hok.sz
    have fz := hv.box.froz 5
    obtain ⟨ad, cap, hvs⟩ := hv.row.slice
    obtain ⟨m, hm⟩ : ∃ m, m = min s.left.length s.wd := ⟨_, rfl⟩
    have hmi : min (s.left.length : Int) (s.wd : Int) = (m : Int) := by omega
    have HD0 : Hid (DuS w b v s t 0 (.slice none 0 0) (w.setCell ⟨b, 5, none⟩ (.int .i64 t))) := hide (by
      have hset := Kp.set w b 5 (.int .i64 t)
      refine ⟨⟨?_, ?_⟩, ?_, hset.mono (by simp)⟩
      · have := hv.box.set 5 (.int .i64 t)
        unfold dueS
        rw [lmks_zero]
        exact this
      · unfold dueS
        rw [lmks_zero]
        exact hv.row.kp hset (fun k hk => by simpa using hv.ne hk)
      · rw [List.take_zero]
        exact TxO.nil _ _)
    have HFIN : Hid (∀ pv W, DuS w b v s t m pv W → ∃ v', Ending.returned (.tuple #[pv, .int .i64 0]) = .returned (.tuple #[v', .int .i64 0]) ∧ TxO w.heap.size W v' (lpk s.ep s.pt t s.first (s.left.take s.wd)) ∧ SdAt B W b (dueS s t s.wd) ∧ Ko sdO B w W) := hide (fun pv W hd => by
      have em : s.left.take m = s.left.take s.wd := by
        rcases Nat.le_total s.left.length s.wd with h | h
        · rw [List.take_of_length_le (by omega), List.take_of_length_le h]
        · rw [show m = s.wd by omega]
      have es : dueS s t m = dueS s t s.wd := by
        unfold dueS
        congr 1
        rcases Nat.le_total s.left.length s.wd with h | h
        · rw [lmks_past _ _ s.wd _ h, show m = s.left.length by omega]
        · rw [show m = s.wd by omega]
      have ht := hd.tx
      rw [em] at ht
      have hs2 := hd.sd
      rw [es] at hs2
      exact ⟨pv, rfl, ht, sd_step hv hB hbv hd.kp hs2.box hs2.row (fun k hk => Or.inl hk)⟩)
    have hmn : m ≤ s.left.length := by omega
    have hmw : m ≤ 256 := by omega
    have hll := hok.len
    clear h e1 e2 e3 hok hm hB hbv
    subst hvs
    have hgw : ∀ g, ad = some ⟨g, 0, none⟩ → g < w.heap.size := fun g e => by subst e; exact hv.row.lt rfl
    have hadn : 0 < s.left.length → ∃ g, ad = some ⟨g, 0, none⟩ := fun h0 => by
      rcases hv.row.form with ⟨_, e⟩ | ⟨g, c, e, _⟩
      · rw [e] at h0; cases h0
      · injection e with e; exact ⟨g, e⟩
    have HAD := hide hadn
    have HGW := hide hgw
    have HBW := hide ((Array.getElem?_eq_some_iff.1 hv.box).1)
    clear hv hadn hgw
    have CEL : Hid (∀ k pv W, DuS w b (.slice ad s.left.length cap) s t k pv W → W.cell? ⟨b, 0, none⟩ = some (.int .i64 s.ep) ∧ W.cell? ⟨b, 1, none⟩ = some (.int .i64 (s.wd : Int)) ∧ W.cell? ⟨b, 2, none⟩ = some (.int .i64 s.pt) ∧ W.cell? ⟨b, 3, none⟩ = some (.int .i64 (s.first : Int)) ∧ W.cell? ⟨b, 4, none⟩ = some (.slice ad s.left.length cap)) := hide (fun k pv W hd => ⟨hd.sd.box.cell rfl, hd.sd.box.cell rfl, hd.sd.box.cell rfl, hd.sd.box.cell rfl, hd.sd.box.cell rfl⟩)
    go_enter Try.func12, Try.ntmps12
    go_upto_region 5 with fail
    obtain ⟨W0, hW0⟩ : ∃ W0, W0 = w.setCell ⟨b, 5, none⟩ (.int .i64 t) := ⟨_, rfl⟩
    rw [← hW0] at HD0 ⊢
    clear hW0 c5 fz
    obtain ⟨a0, a1, a2, a3, a4⟩ := unhide CEL _ _ _ (unhide HD0)
    go_cut [32, 33] (fun mv kv wc => mv = .int .i64 (m : Int) ∧ kv = .int .i64 0 ∧ Kp [] W0 wc)
    case first =>
      go_quiet (fail)
      go_wp2
      go_meet
      exact ⟨rfl, rfl, Kp.drewQ _ _⟩
    case rest =>
      obtain ⟨rfl, rfl, kc⟩ := hcut
      have HD1 := hide ((unhide HD0).al kc)
      clear kc HD0 a0 a1 a2 a3 a4
      go_wp2_with fail
      go_loopw [6, 33] (fun pv kv wr => ∃ k : Nat, k ≤ m ∧ kv = .int .i64 (k : Int) ∧ Hid (DuS w b (.slice ad s.left.length cap) s t k pv wr)) (fun _ kv _ => m - (intOf kv).toNat)
      case atStart => exact ⟨0, Nat.zero_le _, rfl, HD1⟩
      case round =>
        clear HD1
        obtain ⟨k, hkm, rfl, HD⟩ := hrel
        obtain ⟨pv, hpv⟩ : ∃ pv, pv = u6 := ⟨_, rfl⟩
        subst hpv
        by_cases hlt : k < m
        · have hlti : (k : Int) < (m : Int) := by omega
          have hkn : k < s.left.length := by omega
          have hkni : (k : Int) < (s.left.length : Int) := by omega
          obtain ⟨g, rfl⟩ := unhide HAD (by omega)
          have hgw := unhide HGW g rfl
          obtain ⟨a0, a1, a2, a3, a4⟩ := unhide CEL _ _ _ (unhide HD)
          obtain ⟨hk2, hat⟩ := dueS_at (t := t) hkn
          obtain ⟨x0, x1⟩ := (unhide HD).sd.row.cell k hk2
          rw [hat] at x0 x1
          obtain ⟨z1, z2, z3⟩ := unhide hsz s.left[k] (List.getElem_mem hkn)
          have hlt2 : Hid (∀ j ∈ b :: (Value.slice (some ⟨g, 0, none⟩) s.left.length cap).ownBlock.toList, j < w.heap.size) := hide (fun j hj => by
            rcases List.mem_cons.1 hj with rfl | hj
            · exact unhide HBW
            · simp [Value.ownBlock] at hj
              omega)
          have HSK := hide (fun W hk hq => ((unhide HD).al (W' := W) hk).skip hkn hq)
          have HMK := hide (fun W hk hq => by
            obtain ⟨q1, q2, q3⟩ := ((unhide HD).al (W' := W) hk).mark hkn hgw hq
            exact And.intro q1 (And.intro q2 (And.intro q3 (DuS.txt q1 hkn))))
          have HPK := hide (lpk_take_succ s.ep s.pt t s.first k s.left hkn)
          have HNX := hide (fun W1 V3 W' pv' D h1 h2 h3 h4 h5 h6 h7 => DuS.next (w := w) (W1 := W1) (V3 := V3) (W' := W') (b := b) (v := .slice (some ⟨g, 0, none⟩) s.left.length cap) (pv := pv) (pv' := pv') (s := s) (t := t) (k := k) (D := D) h1 h2 h3 h4 h5 h6 (unhide hlt2) h7)
          have hf1 := (show CBox g _ _ wr from (unhide HD).sd.row.box.2.2.2.choose_spec.2).froz (k * 2 + 1)
          have HF1 : Hid (∀ W, Kp [] wr W → W.frozen? ⟨g, k * 2 + 1, none⟩ = false ∧ W.cell? ⟨g, k * 2 + 1, none⟩ = some (.int .i64 (s.left[k]).at_)) := hide (fun W hk => by
            obtain ⟨_, _, _, rest, _, hb⟩ := ((unhide HD).al hk).sd.row.box
            refine ⟨hb.froz _, ?_⟩
            have := (((unhide HD).al hk).sd.row.cell k hk2).2
            rwa [hat] at this)
          clear hat hk2
          have HLG : Hid (lagn s.pt t s.left[k] = ((s.left[k]).at_ == -1 || decide (s.pt ≤ t - (s.left[k]).at_))) := hide rfl
          obtain ⟨x, hx⟩ : ∃ x, x = s.left[k] := ⟨_, rfl⟩
          have HXB0 : Hid (s.left[k] = x) := hide hx.symm
          rw [← hx] at x0 x1 z1 z2 z3 HLG HSK HMK HPK HF1
          clear hx
          obtain ⟨xb, xt⟩ := x
          have HXB : Hid ((s.left[k]).b = xb) := hide (by rw [unhide HXB0])
          clear HXB0
          dsimp only at *
          generalize lagn s.pt t ⟨xb, xt⟩ = Q at *
          go_upto_region 9 with fail
          go_cut [59] (fun qv wc => qv = .bool (!Q) ∧ Kp [] wr wc)
          case first =>
            by_cases hx : xt = -1
            · subst hx
              have HQ : Hid (Q = true) := hide (by rw [unhide HLG]; rfl)
              clear HSK HMK HPK HLG
              go_quiet (fail)
              go_wp2
              go_meet
              exact ⟨by rw [unhide HQ]; rfl, Kp.drewQ _ _⟩
            · have hxb : (xt != -1) = true := bne_iff_ne.2 hx
              have hxe : (xt == -1) = false := beq_eq_false_iff_ne.2 hx
              obtain ⟨D, hD⟩ : ∃ D, D = t - xt := ⟨_, rfl⟩
              have hDw : IntKind.i64.wrap (t - xt) = D := by rw [hD]; unfold IntKind.wrap; simp [IntKind.signed, go_sem]; omega
              have HQ : Hid (Q = decide (s.pt ≤ D)) := hide (by rw [unhide HLG, hxe, Bool.false_or, hD])
              clear HSK HMK HPK HLG hD hx hxe
              by_cases h5 : D < s.pt
              · go_quiet (fail)
                go_wp2
                go_meet
                exact ⟨by rw [unhide HQ, decide_eq_false (by omega)]; rfl, Kp.drewQ _ _⟩
              · go_quiet (fail)
                go_wp2
                go_meet
                exact ⟨by rw [unhide HQ, decide_eq_true (by omega)]; rfl, Kp.drewQ _ _⟩
          case rest =>
            obtain ⟨rfl, kc⟩ := hcut
            clear x0 x1 a0 a1 a2 a3 a4
            cases Q with
            | false =>
              have HR := hide (unhide HSK wc kc rfl)
              clear HSK HMK HPK HLG HNX kc HD HF1
              go_wp2
              go_roundw
              case rel => exact ⟨k + 1, by omega, by go_num, HR⟩
              case measure => simp [intOf]; omega
            | true =>
              obtain ⟨f1, x1⟩ := unhide HF1 wc kc
              have HM := hide (unhide HMK wc kc rfl)
              have HE := hide (show lpk s.ep s.pt t s.first (s.left.take (k + 1)) = lpk s.ep s.pt t s.first (s.left.take k) ++ [dataB s.ep ((s.first + k : Nat) : Int) xb] from unhide HPK)
              have LD := hide (fun W => lData_any s.ep ((s.first + k : Nat) : Int) xb W (by omega) (by omega) (by omega) (by omega) (by omega))
              have hlp : (lpk s.ep s.pt t s.first (s.left.take k)).length ≤ 1000000 := by
                have := lpk_len s.ep s.pt t s.first (s.left.take k)
                rw [List.length_take] at this
                omega
              clear HSK HMK HPK HLG kc HD HF1 hf1
              go_upto_region 11 with fail
              obtain ⟨W1, hW1⟩ : ∃ W1, W1 = wc.setCell ⟨g, k * 2 + 1, none⟩ (.int .i64 t) := ⟨_, rfl⟩
              rw [← hW1] at HM ⊢
              clear hW1 f1 x1
              obtain ⟨q1, q2, q3, q4⟩ := unhide HM
              obtain ⟨V, hV⟩ : ∃ V, V = W1.drew := ⟨_, rfl⟩
              have KV : Hid (Kp [] W1 V) := hide (by rw [hV]; exact Kp.drew _)
              have HSS : Hid (∀ W, Kp [] W1 W → W.cell? ⟨b, 0, none⟩ = some (.int .i64 s.ep) ∧ W.cell? ⟨b, 3, none⟩ = some (.int .i64 (s.first : Int)) ∧ W.cell? ⟨g, k * 2, none⟩ = some (.string xb)) := hide (fun W hk => ⟨(q1.box.kp hk (by simp)).cell rfl, (q1.box.kp hk (by simp)).cell rfl, hk.cell q4 (by simp)⟩)
              have HTX : Hid (∀ W, Kp [] W1 W → TxO w.heap.size W pv (lpk s.ep s.pt t s.first (s.left.take k)) ∧ w.heap.size ≤ W.heap.size) := hide (fun W hk => ⟨q2.kp hk (by simp), Nat.le_trans q3.size hk.size⟩)
              obtain ⟨pad, pcp, rfl, _⟩ := q2.form
              have HTXT : Hid (∀ W' pv', DuS w b (.slice (some ⟨g, 0, none⟩) s.left.length cap) s t (k + 1) pv' W' → W'.cell? ⟨g, k * 2, none⟩ = some (.string xb)) := hide (fun W' pv' hd => by
                have := DuS.txt hd.sd hkn
                rwa [unhide HXB] at this)
              have HNX2 := hide (fun V3 W' pv' h4 h5 h6 => unhide HNX W1 V3 W' pv' (dataB s.ep ((s.first + k : Nat) : Int) xb) q1 q2 q3 h4 h5 h6 (unhide HE))
              have hfk : IntKind.i64.wrap ((s.first : Int) + (k : Int)) = ((s.first + k : Nat) : Int) := by unfold IntKind.wrap; simp [IntKind.signed, go_sem]; omega
              clear q1 q2 q3 q4 HM HNX HE
              generalize dataB s.ep ((s.first + k : Nat) : Int) xb = D at *
              generalize hL : lpk s.ep s.pt t s.first (s.left.take k) = L at *
              clear hL
              generalize ((s.first + k : Nat) : Int) = N at *
              refine wp_region_held_drew (S := fun W => W.cell? ⟨b, 0, none⟩ = some (.int .i64 s.ep) ∧ W.cell? ⟨b, 3, none⟩ = some (.int .i64 (s.first : Int)) ∧ W.cell? ⟨g, k * 2, none⟩ = some (.string xb)) (by kernel_rfl) (by rw [← hV]; exact unhide HSS V (unhide KV)) (fun hHeld => ?_)
              rw [← hV] at hHeld ⊢
              clear hV
              show wpAnyH _ _ _ _ _ 20 (Array.replicate 20 false) _ _
              refine wpAnyH_take (i := 0) (oi := { dst := some 64, op := Op.move (Operand.tmp 6), type := 39, pos := "sender.go:57", after := #[], guard := none }) (v := ?_) rfl (by kernel_rfl) (by kernel_rfl) (by kernel_rfl) (fun _ _ _ h => h) (Or.inl ⟨by rfl, ?_⟩) (by assumption) ?_
              rotate_left 1
              · intro w0 hSw
                (try dsimp only at hSw)
                go_simp
                (try with_reducible rfl)
              try simp only [Act.put, List.setIfInBounds_toArray, List.set_cons_zero, List.set_cons_succ]
              refine wpAnyH_take (i := 1) (oi := { dst := some 65, op := Op.move (Operand.tmp 0), type := 25, pos := "sender.go:57", after := #[], guard := none }) (v := ?_) rfl (by kernel_rfl) (by kernel_rfl) (by kernel_rfl) (fun _ _ _ h => h) (Or.inl ⟨by rfl, ?_⟩) (by assumption) ?_
              rotate_left 1
              · intro w0 hSw
                (try dsimp only at hSw)
                go_simp
                (try with_reducible rfl)
              try simp only [Act.put, List.setIfInBounds_toArray, List.set_cons_zero, List.set_cons_succ]
              refine wpAnyH_take (i := 2) (oi := { dst := some 66, op := Op.nilCheck (Operand.tmp 65), type := 0, pos := "sender.go:57", after := #[{ on := 1, ground := Ground.data }], guard := none }) (v := ?_) rfl (by kernel_rfl) (by kernel_rfl) (by kernel_rfl) (fun _ _ _ h => h) (Or.inl ⟨by rfl, ?_⟩) (by assumption) ?_
              rotate_left 1
              · intro w0 hSw
                (try dsimp only at hSw)
                go_simp
                (try with_reducible rfl)
              try simp only [Act.put, List.setIfInBounds_toArray, List.set_cons_zero, List.set_cons_succ]
              refine wpAnyH_take (i := 3) (oi := { dst := some 67, op := Op.fieldAddr 60 (Operand.tmp 66) 0, type := 0, pos := "sender.go:57", after := #[{ on := 2, ground := Ground.data }], guard := none }) (v := ?_) rfl (by kernel_rfl) (by kernel_rfl) (by kernel_rfl) (fun _ _ _ h => h) (Or.inl ⟨by rfl, ?_⟩) (by assumption) ?_
              rotate_left 1
              · intro w0 hSw
                (try dsimp only at hSw)
                go_simp
                (try with_reducible rfl)
              try simp only [Act.put, List.setIfInBounds_toArray, List.set_cons_zero, List.set_cons_succ]
              refine wpAnyH_take (i := 4) (oi := { dst := some 68, op := Op.load 3 (Operand.tmp 67), type := 3, pos := "sender.go:57", after := #[{ on := 3, ground := Ground.data }], guard := none }) (v := ?_) rfl (by kernel_rfl) (by kernel_rfl) (by kernel_rfl) (fun _ _ _ h => h) (Or.inl ⟨by rfl, ?_⟩) (by assumption) ?_
              rotate_left 1
              · intro w0 hSw
                (try dsimp only at hSw)
                go_simp
                (try with_reducible rfl)
              try simp only [Act.put, List.setIfInBounds_toArray, List.set_cons_zero, List.set_cons_succ]
              refine wpAnyH_take (i := 5) (oi := { dst := some 69, op := Op.move (Operand.tmp 0), type := 25, pos := "sender.go:57", after := #[], guard := none }) (v := ?_) rfl (by kernel_rfl) (by kernel_rfl) (by kernel_rfl) (fun _ _ _ h => h) (Or.inl ⟨by rfl, ?_⟩) (by assumption) ?_
              rotate_left 1
              · intro w0 hSw
                (try dsimp only at hSw)
                go_simp
                (try with_reducible rfl)
              try simp only [Act.put, List.setIfInBounds_toArray, List.set_cons_zero, List.set_cons_succ]
              refine wpAnyH_take (i := 6) (oi := { dst := some 70, op := Op.nilCheck (Operand.tmp 69), type := 0, pos := "sender.go:57", after := #[{ on := 5, ground := Ground.data }], guard := none }) (v := ?_) rfl (by kernel_rfl) (by kernel_rfl) (by kernel_rfl) (fun _ _ _ h => h) (Or.inl ⟨by rfl, ?_⟩) (by assumption) ?_
              rotate_left 1
              · intro w0 hSw
                (try dsimp only at hSw)
                go_simp
                (try with_reducible rfl)
              try simp only [Act.put, List.setIfInBounds_toArray, List.set_cons_zero, List.set_cons_succ]
              refine wpAnyH_take (i := 7) (oi := { dst := some 71, op := Op.fieldAddr 60 (Operand.tmp 70) 3, type := 0, pos := "sender.go:57", after := #[{ on := 6, ground := Ground.data }], guard := none }) (v := ?_) rfl (by kernel_rfl) (by kernel_rfl) (by kernel_rfl) (fun _ _ _ h => h) (Or.inl ⟨by rfl, ?_⟩) (by assumption) ?_
              rotate_left 1
              · intro w0 hSw
                (try dsimp only at hSw)
                go_simp
                (try with_reducible rfl)
              try simp only [Act.put, List.setIfInBounds_toArray, List.set_cons_zero, List.set_cons_succ]
              refine wpAnyH_take (i := 8) (oi := { dst := some 72, op := Op.load 3 (Operand.tmp 71), type := 3, pos := "sender.go:57", after := #[{ on := 7, ground := Ground.data }], guard := none }) (v := ?_) rfl (by kernel_rfl) (by kernel_rfl) (by kernel_rfl) (fun _ _ _ h => h) (Or.inl ⟨by rfl, ?_⟩) (by assumption) ?_
              rotate_left 1
              · intro w0 hSw
                (try dsimp only at hSw)
                go_simp
                (try with_reducible rfl)
              try simp only [Act.put, List.setIfInBounds_toArray, List.set_cons_zero, List.set_cons_succ]
              refine wpAnyH_take (i := 9) (oi := { dst := some 73, op := Op.move (Operand.tmp 7), type := 3, pos := "sender.go:57", after := #[], guard := none }) (v := ?_) rfl (by kernel_rfl) (by kernel_rfl) (by kernel_rfl) (fun _ _ _ h => h) (Or.inl ⟨by rfl, ?_⟩) (by assumption) ?_
              rotate_left 1
              · intro w0 hSw
                (try dsimp only at hSw)
                go_simp
                (try with_reducible rfl)
              try simp only [Act.put, List.setIfInBounds_toArray, List.set_cons_zero, List.set_cons_succ]
              refine wpAnyH_take (i := 10) (oi := { dst := some 74, op := Op.binOp BinOp.add 3 (Operand.tmp 72) (Operand.tmp 73) 3, type := 3, pos := "sender.go:57", after := #[{ on := 8, ground := Ground.data }, { on := 9, ground := Ground.data }], guard := none }) (v := ?_) rfl (by kernel_rfl) (by kernel_rfl) (by kernel_rfl) (fun _ _ _ h => h) (Or.inl ⟨by rfl, ?_⟩) (by assumption) ?_
              rotate_left 1
              · intro w0 hSw
                (try dsimp only at hSw)
                go_simp
                (try with_reducible rfl)
              try simp only [Act.put, List.setIfInBounds_toArray, List.set_cons_zero, List.set_cons_succ]
              refine wpAnyH_take (i := 11) (oi := { dst := some 75, op := Op.move (Operand.tmp 8), type := 69, pos := "sender.go:57", after := #[], guard := none }) (v := ?_) rfl (by kernel_rfl) (by kernel_rfl) (by kernel_rfl) (fun _ _ _ h => h) (Or.inl ⟨by rfl, ?_⟩) (by assumption) ?_
              rotate_left 1
              · intro w0 hSw
                (try dsimp only at hSw)
                go_simp
                (try with_reducible rfl)
              try simp only [Act.put, List.setIfInBounds_toArray, List.set_cons_zero, List.set_cons_succ]
              refine wpAnyH_take (i := 12) (oi := { dst := some 76, op := Op.nilCheck (Operand.tmp 75), type := 0, pos := "sender.go:57", after := #[{ on := 11, ground := Ground.data }], guard := none }) (v := ?_) rfl (by kernel_rfl) (by kernel_rfl) (by kernel_rfl) (fun _ _ _ h => h) (Or.inl ⟨by rfl, ?_⟩) (by assumption) ?_
              rotate_left 1
              · intro w0 hSw
                (try dsimp only at hSw)
                go_simp
                (try with_reducible rfl)
              try simp only [Act.put, List.setIfInBounds_toArray, List.set_cons_zero, List.set_cons_succ]
              refine wpAnyH_take (i := 13) (oi := { dst := some 77, op := Op.fieldAddr 66 (Operand.tmp 76) 0, type := 0, pos := "sender.go:57", after := #[{ on := 12, ground := Ground.data }], guard := none }) (v := ?_) rfl (by kernel_rfl) (by kernel_rfl) (by kernel_rfl) (fun _ _ _ h => h) (Or.inl ⟨by rfl, ?_⟩) (by assumption) ?_
              rotate_left 1
              · intro w0 hSw
                (try dsimp only at hSw)
                go_simp
                (try with_reducible rfl)
              try simp only [Act.put, List.setIfInBounds_toArray, List.set_cons_zero, List.set_cons_succ]
              refine wpAnyH_take (i := 14) (oi := { dst := some 78, op := Op.load 9 (Operand.tmp 77), type := 9, pos := "sender.go:57", after := #[{ on := 13, ground := Ground.data }], guard := none }) (v := ?_) rfl (by kernel_rfl) (by kernel_rfl) (by kernel_rfl) (fun _ _ _ h => h) (Or.inl ⟨by rfl, ?_⟩) (by assumption) ?_
              rotate_left 1
              · intro w0 hSw
                (try dsimp only at hSw)
                go_simp
                (try with_reducible rfl)
              try simp only [Act.put, List.setIfInBounds_toArray, List.set_cons_zero, List.set_cons_succ]
              refine wpAnyH_take (i := 15) (oi := { dst := some 79, op := Op.build 72 #[(0, Operand.tmp 68), (1, Operand.tmp 74), (2, Operand.tmp 78)], type := 72, pos := "sender.go:57", after := #[{ on := 4, ground := Ground.data }, { on := 10, ground := Ground.data }, { on := 14, ground := Ground.data }], guard := none }) (v := ?_) rfl (by kernel_rfl) (by kernel_rfl) (by kernel_rfl) (fun _ _ _ h => h) (Or.inl ⟨by rfl, ?_⟩) (by assumption) ?_
              rotate_left 1
              · intro w0 hSw
                (try dsimp only at hSw)
                go_simp
                (try with_reducible rfl)
              try simp only [Act.put, List.setIfInBounds_toArray, List.set_cons_zero, List.set_cons_succ]
              refine wpAnyH_ready (rs := [16]) (by kernel_rfl) (by simp) ?_
              refine AllReadyH.cons (o := { dst := some 80, op := Op.call { callee := Callee.value (Operand.func 25), args := #[Operand.tmp 79], argTypes := #[72] }, type := 9, pos := "sender.go:57", after := #[{ on := 15, ground := Ground.data }], guard := none }) rfl (fun K hK => ?_) (AllReadyH.nil)
              go_simp
              refine (unhide LD V).mono ?_
              rintro e V2 ⟨rfl, kb⟩
              have KV2 : Hid (Kp [] W1 V2) := hide ((unhide KV).trans (Kp.ofBelow kb) (by simp))
              clear kb KV
              refine hK.out _ _ ?_ (fun hHeld => ?_)
              · exact unhide HSS _ (unhide KV2)
              clear hK K
              try simp only [Act.put, List.setIfInBounds_toArray, List.set_cons_zero, List.set_cons_succ]
              refine wpAnyH_ready (rs := [17]) (by kernel_rfl) (by simp) ?_
              refine AllReadyH.cons (o := { dst := some 81, op := Op.buildSlice 39 1 #[(0, Operand.tmp 80)], type := 39, pos := "sender.go:57", after := #[{ on := 16, ground := Ground.data }], guard := none }) rfl (fun K hK => ?_) (AllReadyH.nil)
              go_simp
              have KV3 : Hid (Kp [] W1 (V2.alloc (.cells #[.string D] 9))) := hide ((unhide KV2).trans (Kp.alloc _ _) (by simp))
              have NB := hide (CBox.new V2 #[.string D] 9)
              refine hK.out _ _ ?_ (fun hHeld => ?_)
              · exact unhide HSS _ (unhide KV3)
              clear hK K
              try simp only [Act.put, List.setIfInBounds_toArray, List.set_cons_zero, List.set_cons_succ]
              generalize V2.alloc (.cells #[.string D] 9) = V3 at *
              generalize V2.heap.size = g3 at *
              obtain ⟨tx3, sz3⟩ := unhide HTX V3 (unhide KV3)
              obtain ⟨pv', W', hrun, tx4, k4, _⟩ := tx3.push sz3 (unhide NB) hlp 39
              have HN4 := hide (unhide HNX2 V3 W' pv' (unhide KV3) tx4 k4)
              have HS4 := hide (show W'.cell? ⟨b, 0, none⟩ = some (.int .i64 s.ep) ∧ W'.cell? ⟨b, 3, none⟩ = some (.int .i64 (s.first : Int)) ∧ W'.cell? ⟨g, k * 2, none⟩ = some (.string xb) from ⟨(unhide HN4).sd.box.cell rfl, (unhide HN4).sd.box.cell rfl, (unhide HTXT) W' pv' (unhide HN4)⟩)
              refine wpAnyH_ready (rs := [18]) (by kernel_rfl) (by simp) ?_
              refine AllReadyH.cons (o := { dst := some 82, op := Op.call { callee := Callee.builtin Builtin.append, args := #[Operand.tmp 64, Operand.tmp 81], argTypes := #[39, 39] }, type := 39, pos := "sender.go:57", after := #[{ on := 0, ground := Ground.data }, { on := 17, ground := Ground.data }, { on := 16, ground := Ground.chain }], guard := none }) rfl (fun K hK => ?_) (AllReadyH.nil)
              refine step_app_run rfl (.tmp 64) (.tmp 81) 39 rfl rfl rfl hrun ?_
              refine hK.out _ _ ?_ (fun hHeld => ?_)
              · exact unhide HS4
              clear hK K
              try simp only [Act.put, List.setIfInBounds_toArray, List.set_cons_zero, List.set_cons_succ]
              refine wpAnyH_take (i := 19) (oi := { dst := some 6, op := Op.assign (Operand.tmp 82), type := 39, pos := "sender.go:57", after := #[{ on := 18, ground := Ground.data }, { on := 18, ground := Ground.chain }, { on := 0, ground := Ground.phase }, { on := 1, ground := Ground.phase }, { on := 2, ground := Ground.phase }, { on := 3, ground := Ground.phase }, { on := 4, ground := Ground.phase }, { on := 5, ground := Ground.phase }, { on := 6, ground := Ground.phase }, { on := 7, ground := Ground.phase }, { on := 8, ground := Ground.phase }, { on := 9, ground := Ground.phase }, { on := 10, ground := Ground.phase }, { on := 11, ground := Ground.phase }, { on := 12, ground := Ground.phase }, { on := 13, ground := Ground.phase }, { on := 14, ground := Ground.phase }, { on := 15, ground := Ground.phase }, { on := 16, ground := Ground.phase }, { on := 17, ground := Ground.phase }, { on := 18, ground := Ground.phase }], guard := none }) (v := ?_) rfl (by kernel_rfl) (by kernel_rfl) (by kernel_rfl) (fun _ _ _ h => h) (Or.inl ⟨by rfl, ?_⟩) (by assumption) ?_
              rotate_left 1
              · intro w0 hSw
                (try dsimp only at hSw)
                go_simp
                (try with_reducible rfl)
              try simp only [Act.put, List.setIfInBounds_toArray, List.set_cons_zero, List.set_cons_succ]
              refine wpAnyH_done (by kernel_rfl) ?_ _
              clear tx3 sz3 tx4 k4 hrun HS4 NB KV3 HTX HSS HNX2 LD
              go_wp2
              go_roundw
              case rel => exact ⟨k + 1, by omega, by go_num, HN4⟩
              case measure => simp [intOf]; omega
        · obtain rfl : k = m := by omega
          have hlti : ¬ (k : Int) < (k : Int) := by omega
          have HF := hide (unhide HFIN pv wr (unhide HD))
          clear HD
          go_wp2
          go_ret2
          exact unhide HF
end Go.Proofs.Ytiomngpfolkgpaa
