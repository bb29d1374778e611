/-
  A net: Send.
  A net: Lose, Take.
  A statement whose order is drawn, and whose last operation waits for all others, be it through others: what is read ahead of it may be taken first. Of no program.
-/
import Derived.Test.YtledoopfffhigaaT05
import Derived.Test.YtledoopfffhigaaT03
namespace Go.Proofs.Ytledoopfffhigaa
open Go.RowKit Nt

set_option maxHeartbeats 2000000 in
set_option maxRecDepth 100000 in
theorem nsend_any (B b : Nat) (s : St) (f t : Int) (x : ByteArray) (w : World) (M : Int) (h : NtAt B w b s) (ok : Ok M s) (hM : M ≤ 2305843009213693952) (hx : x.size ≤ 9223372036854775807) :
    Calls Try.prog 12 #[.pointer (some ⟨b, 0, none⟩), .int .i64 f, .int .i64 t, .string x] w fun e w' => e = .returned (.int .i64 (seE s f t x)) ∧ NtAt B w' b (seS s f t x) ∧ Ks B ntT w w' := by
  obtain ⟨q, vs, hn, hB⟩ := h
  have HF := hide (fun W (hW : NtV W b q vs s) => nhas_any b q vs s f W hW)
  have HT := hide (fun W (hW : NtV W b q vs s) => nhas_any b q vs s t W hW)
  have HM := hide hn
  have HS : Hid (NtAt B w b s ∧ Ks B ntT w w) := hide (nt_same hn hB (Kp.refl _ _))
  unfold seS seE
  cases hf : hasN s.ws.length f with
  | false =>
    rw [hf] at HF
    simp only [Bool.false_and, Bool.false_eq_true, if_false, show ¬ ((180 : Int) = 0) by decide]
    clear hn hf
    go_enter Try.func12, Try.ntmps12
    go_wp2_with fail
    refine (unhide HF _ (unhide HM)).mono ?_
    rintro r w1 ⟨rfl, rfl⟩
    go_wp2
    go_ret
    exact ⟨rfl, unhide HS⟩
  | true =>
    rw [hf] at HF
    cases ht : hasN s.ws.length t with
    | false =>
      rw [ht] at HT
      simp only [Bool.true_and, Bool.false_eq_true, if_false, show ¬ ((180 : Int) = 0) by decide]
      clear hn hf ht
      go_enter Try.func12, Try.ntmps12
      go_wp2_with fail
      refine (unhide HF _ (unhide HM)).mono ?_
      rintro r w1 ⟨rfl, rfl⟩
      go_wp2_with fail
      refine (unhide HT _ (unhide HM)).mono ?_
      rintro r w1 ⟨rfl, rfl⟩
      go_wp2
      go_ret
      exact ⟨rfl, unhide HS⟩
    | true =>
      rw [ht] at HT
      simp only [Bool.true_and, if_true]
      obtain ⟨m, rfl, hm⟩ := hasN_nat ht
      have c0 := hn.cell
      obtain ⟨ad, cap, c1, hv, hr⟩ := hn.at m hm
      have hmi : (m : Int) < (s.ws.length : Int) := by omega
      have WF := hide (fun W => wfull_any ad (row s (m : Int)).length cap W)
      have hrl := (ok.row (m : Int)).1
      by_cases hsz : 65536 < x.size
      · have hz : (65536 : Int) < (x.size : Int) := by omega
        simp only [hsz, true_or, if_true, show ¬ ((2 : Int) = 0) by decide, if_false]
        clear hn hf ht hr hv c1
        go_enter Try.func12, Try.ntmps12
        go_wp2_with fail
        refine (unhide HF _ (unhide HM)).mono ?_
        rintro r w1 ⟨rfl, rfl⟩
        go_wp2_with fail
        refine (unhide HT _ (unhide HM)).mono ?_
        rintro r w1 ⟨rfl, rfl⟩
        go_wp2
        go_ret
        exact ⟨rfl, unhide HS⟩
      · have hz : ¬ (65536 : Int) < (x.size : Int) := by omega
        by_cases hfl : (row s (m : Int)).length = 4096
        · simp only [hsz, hfl, or_true, if_true, show ¬ ((2 : Int) = 0) by decide, if_false]
          rw [hfl] at c1 WF
          simp only [decide_true] at WF
          clear hn hf ht hr hv
          generalize s.ws.length = n at *
          go_enter Try.func12, Try.ntmps12
          go_wp2_with fail
          refine (unhide HF _ (unhide HM)).mono ?_
          rintro r w1 ⟨rfl, rfl⟩
          go_wp2_with fail
          refine (unhide HT _ (unhide HM)).mono ?_
          rintro r w1 ⟨rfl, rfl⟩
          go_wp2_with fail
          refine (unhide WF _).mono ?_
          rintro r w1 ⟨rfl, rfl⟩
          go_wp2
          go_ret
          exact ⟨rfl, unhide HS⟩
        · simp only [hsz, hfl, or_self, if_false, if_true]
          rw [decide_eq_false hfl] at WF
          have CLN := hide (fun W => clone_any x W (by omega))
          have PUT : Hid (∀ W, Kp [] w.drew W → Calls Try.prog 28 #[.pointer (some ⟨q, m, none⟩), .agg #[.int .i64 f, .string x]] W fun e w' => (∃ v, e = .returned v) ∧ w'.cell? ⟨b, 0, none⟩ = some (.slice (some ⟨q, 0, none⟩) s.ws.length s.ws.length) ∧ ∃ vs', NtV w' b q vs' ⟨s.ws.set m (row s (m : Int) ++ [⟨f, x⟩]), s.c⟩ ∧ Kp (q :: (Value.slice ad (row s (m : Int)).length cap).ownBlock.toList) w w' ∧ ∀ k ∈ ntF b q vs', k ∈ ntF b q vs ∨ w.heap.size ≤ k) := hide (fun W hk => by
            have hk0 : Kp [] w W := kp_tr (Kp.drew w) hk
            have hW := hn.kp hk0 (by simp)
            have hvs : vs.toArray[m]? = some (.slice ad (row s (m : Int)).length cap) := by simpa using hv
            refine (wput_any q m vs.toArray ad cap (row s (m : Int)) ⟨f, x⟩ W hW.row hvs (hr.kp hk0 (by simp)) (by omega)).mono ?_
            rintro e w' ⟨he, hw⟩
            obtain ⟨vs', a1, a2, a3⟩ := hW.way hv hw
            refine ⟨he, by have := a1.cell; rwa [show (St.ws ⟨s.ws.set m (row s (m : Int) ++ [⟨f, x⟩]), s.c⟩).length = s.ws.length by simp] at this, vs', a1, (hk0.mono (by simp)).trans a2 (fun _ hx => Or.inl hx), fun k hk1 => (a3 k hk1).imp_right (fun h1 => by have := hk0.size; omega)⟩)
          have FIN : Hid (∀ w3 vs' w5, NtV w3 b q vs' ⟨s.ws.set m (row s (m : Int) ++ [⟨f, x⟩]), s.c⟩ → Kp (q :: (Value.slice ad (row s (m : Int)).length cap).ownBlock.toList) w w3 → (∀ k ∈ ntF b q vs', k ∈ ntF b q vs ∨ w.heap.size ≤ k) → NtV w5 b q vs' ⟨s.ws.set m (row s (m : Int) ++ [⟨f, x⟩]), up s.c 0 (s.c 0 + 1)⟩ → Kp [b] w3 w5 → NtAt B w5 b (put s (m : Int) (row s (m : Int) ++ [⟨f, x⟩]) 0 1) ∧ Ks B ntT w w5) := hide (fun w3 vs' w5 a1 a2 a3 a4 a5 => nt_put hn hB hv a2 a3 a4 a5)
          have RAI : Hid (∀ w3 vs', NtV w3 b q vs' ⟨s.ws.set m (row s (m : Int) ++ [⟨f, x⟩]), s.c⟩ → Calls Try.prog 30 #[.pointer (some ⟨b, 1, none⟩), .int .i64 0, .int .i64 1] w3 fun e w' => (∃ v, e = .returned v) ∧ NtV w' b q vs' ⟨s.ws.set m (row s (m : Int) ++ [⟨f, x⟩]), up s.c 0 (s.c 0 + 1)⟩ ∧ Kp [b] w3 w') := hide (fun w3 vs' a1 => nraise_any b q vs' _ 0 1 w3 a1 (by decide) (ok.lo 0) (by decide) (by have := ok.hi 0; show s.c 0 + 1 ≤ _; omega))
          have cS : w.drew.cell? ⟨b, 0, none⟩ = some (.slice (some ⟨q, 0, none⟩) s.ws.length s.ws.length) := c0
          have HSC : Hid (∀ W, Kp [] w.drew W → W.cell? ⟨b, 0, none⟩ = some (.slice (some ⟨q, 0, none⟩) s.ws.length s.ws.length)) := hide (fun W hk => hk.cell cS (by simp))
          clear hn hf ht hr hv HS ok hrl hB hm
          generalize s.ws.length = n at *
          generalize (row s (m : Int)).length = k at *
          generalize put s (m : Int) (row s (m : Int) ++ [⟨f, x⟩]) 0 1 = S2 at *
          generalize row s (m : Int) ++ [⟨f, x⟩] = R2 at *
          go_enter Try.func12, Try.ntmps12
          go_wp2_with fail
          refine (unhide HF _ (unhide HM)).mono ?_
          rintro r w1 ⟨rfl, rfl⟩
          go_wp2_with fail
          refine (unhide HT _ (unhide HM)).mono ?_
          rintro r w1 ⟨rfl, rfl⟩
          go_wp2_with fail
          refine (unhide WF _).mono ?_
          rintro r w1 ⟨rfl, rfl⟩
          clear HF HT WF HM c1
          go_wp2_with fail
          go_region_held3 (fun W => W.cell? ⟨b, 0, none⟩ = some (.slice (some ⟨q, 0, none⟩) n n))
            (first | with_reducible exact cS | with_reducible exact (unhide HSC _ (unhide KC)) | with_reducible exact hc3)
            (first
              | (go_at_call 28; refine (unhide PUT _ (unhide KC)).mono ?_; rintro r w3 ⟨⟨v3, rfl⟩, hc3, vs3, a1, a2, a3⟩; have A1 := hide a1; have A2 := hide a2; have A3 := hide a3; clear a1 a2 a3)
              | (go_at_call 29; refine (unhide CLN _).mono ?_; rintro r w2 ⟨rfl, hb2⟩; have KC := hide (Kp.ofBelow hb2); clear hb2))
          clear cS hc3 c0
          go_wp2_with fail
          refine (unhide RAI _ _ (unhide A1)).mono ?_
          rintro r w5 ⟨⟨v5, rfl⟩, b1, b2⟩
          have HFI := hide (unhide FIN _ _ _ (unhide A1) (unhide A2) (unhide A3) b1 b2)
          clear b1 b2 A1 A2 A3 RAI FIN PUT CLN HSC KC
          go_wp2
          go_ret
          exact ⟨rfl, unhide HFI⟩
end Go.Proofs.Ytledoopfffhigaa
namespace Go.Proofs.Ytledoopfffhigaa
open Go.RowKit Nt

theorem nt_al {B : Nat} {w0 w w' : World} {b : Nat} {s : St} (h : NtAt B w b s ∧ Ks B ntT w0 w) (hk : Kp [] w w') : NtAt B w' b s ∧ Ks B ntT w0 w' := by
  obtain ⟨⟨q, vs, h1, h2⟩, h3⟩ := h
  obtain ⟨a, b⟩ := nt_same h1 h2 hk
  exact ⟨a, h3.trans b⟩
/-- What is found. -/
theorem fi_at {s : St} {t i : Int} (h : fiE s t i = 0) : ∃ m k : Nat, t = (m : Int) ∧ m < s.ws.length ∧ i = (k : Int) ∧ k < (row s (m : Int)).length := by
  unfold fiE at h
  split at h
  · rename_i h1
    obtain ⟨m, rfl, hm⟩ := hasN_nat h1
    split at h
    · rename_i h2
      obtain ⟨k, rfl, hk⟩ := hasN_nat h2
      exact ⟨m, k, rfl, hm, rfl, hk⟩
    · cases h
  · cases h
/-- pull, of a net. -/
theorem npull_any (b q : Nat) (vs : List Value) (s : St) (m k : Nat) (w : World) (h : NtV w b q vs s) (hm : m < s.ws.length) (hk : k < (row s (m : Int)).length) :
    ∃ v, vs[m]? = some v ∧ Calls Try.prog 34 #[.pointer (some ⟨q, m, none⟩), .int .i64 (k : Int)] w fun e w' => e = .returned (.agg (pkA (row s (m : Int))[k])) ∧ ∃ vs', NtV w' b q vs' ⟨s.ws.set m ((row s (m : Int)).eraseIdx k), s.c⟩ ∧ Kp (q :: v.ownBlock.toList) w w' ∧ ∀ j ∈ ntF b q vs', j ∈ ntF b q vs ∨ w.heap.size ≤ j := by
  obtain ⟨ad, cap, c1, hv, hr⟩ := h.at m hm
  obtain ⟨g, rfl⟩ : ∃ g, ad = some ⟨g, 0, none⟩ := by
    rcases hr.form with ⟨_, e⟩ | ⟨g, c, e, _⟩
    · rw [e] at hk; cases hk
    · injection e with e1; exact ⟨g, e1⟩
  refine ⟨_, hv, (wpull_any q m vs.toArray g cap _ k hk w h.row (by simpa using hv) hr).mono ?_⟩
  rintro e w' ⟨he, hw⟩
  obtain ⟨vs', a1, a2, a3⟩ := h.way hv hw
  exact ⟨he, vs', a1, a2, a3⟩
set_option maxHeartbeats 2000000 in
set_option maxRecDepth 100000 in
theorem nlose_any (B b : Nat) (s : St) (t i : Int) (w : World) (M : Int) (h : NtAt B w b s) (ok : Ok M s) (hM : M ≤ 2305843009213693952) :
    Calls Try.prog 17 #[.pointer (some ⟨b, 0, none⟩), .int .i64 t, .int .i64 i] w fun e w' => e = .returned (.int .i64 (fiE s t i)) ∧ NtAt B w' b (off s t i 1) ∧ Ks B ntT w w' := by
  obtain ⟨q, vs, hn, hB⟩ := h
  have FI := hide (fun W (hW : NtV W b q vs s) => nfind_any b q vs s t i W hW)
  have HM := hide hn
  have HS : Hid (NtAt B w b s ∧ Ks B ntT w w) := hide (nt_same hn hB (Kp.refl _ _))
  unfold off
  by_cases hf : fiE s t i = 0
  · obtain ⟨m, k, rfl, hm, rfl, hk⟩ := fi_at hf
    rw [hf] at FI
    simp only [hf, if_true, Int.toNat_natCast]
    have c0 := hn.cell
    have hmi : (m : Int) < (s.ws.length : Int) := by omega
    obtain ⟨v, hv, PU⟩ := npull_any b q vs s m k w hn hm hk
    have PUL := hide PU
    have RAI : Hid (∀ w3 vs', NtV w3 b q vs' ⟨s.ws.set m ((row s (m : Int)).eraseIdx k), s.c⟩ → Calls Try.prog 30 #[.pointer (some ⟨b, 1, none⟩), .int .i64 1, .int .i64 1] w3 fun e w' => (∃ v, e = .returned v) ∧ NtV w' b q vs' ⟨s.ws.set m ((row s (m : Int)).eraseIdx k), up s.c 1 (s.c 1 + 1)⟩ ∧ Kp [b] w3 w') := hide (fun w3 vs' a1 => nraise_any b q vs' _ 1 1 w3 a1 (by decide) (ok.lo 1) (by decide) (by have := ok.hi 1; show s.c 1 + 1 ≤ _; omega))
    have FIN : Hid (∀ w3 vs' w5, Kp (q :: v.ownBlock.toList) w w3 → (∀ j ∈ ntF b q vs', j ∈ ntF b q vs ∨ w.heap.size ≤ j) → NtV w5 b q vs' ⟨s.ws.set m ((row s (m : Int)).eraseIdx k), up s.c 1 (s.c 1 + 1)⟩ → Kp [b] w3 w5 → NtAt B w5 b (put s (m : Int) ((row s (m : Int)).eraseIdx k) 1 1) ∧ Ks B ntT w w5) := hide (fun w3 vs' w5 a2 a3 a4 a5 => nt_put hn hB hv a2 a3 a4 a5)
    clear hn HS hB hm hv ok PU hf
    generalize s.ws.length = n at *
    generalize put s (m : Int) ((row s (m : Int)).eraseIdx k) 1 1 = S2 at *
    generalize (row s (m : Int)).eraseIdx k = R2 at *
    generalize (row s (m : Int))[k] = p at *
    obtain ⟨fr, bb⟩ := p
    unfold pkA at PUL
    dsimp only at PUL
    go_enter Try.func17, Try.ntmps17
    go_wp2_with fail
    refine (unhide FI _ (unhide HM)).mono ?_
    rintro r w1 ⟨rfl, rfl⟩
    go_wp2_with fail
    refine (unhide PUL).mono ?_
    rintro r w3 ⟨rfl, vs3, a1, a2, a3⟩
    have A1 := hide a1
    have A2 := hide a2
    have A3 := hide a3
    clear a1 a2 a3 FI HM PUL c0
    go_wp2_with fail
    refine (unhide RAI _ _ (unhide A1)).mono ?_
    rintro r w5 ⟨⟨v5, rfl⟩, b1, b2⟩
    have HFI := hide (unhide FIN _ _ _ (unhide A2) (unhide A3) b1 b2)
    clear b1 b2 A1 A2 A3 RAI FIN
    go_wp2
    go_ret
    exact ⟨rfl, unhide HFI⟩
  · simp only [hf, if_false]
    clear hn
    generalize fiE s t i = E at *
    go_enter Try.func17, Try.ntmps17
    go_wp2_with fail
    refine (unhide FI _ (unhide HM)).mono ?_
    rintro r w1 ⟨rfl, rfl⟩
    go_wp2
    go_ret
    exact ⟨rfl, unhide HS⟩
set_option maxHeartbeats 2000000 in
set_option maxRecDepth 100000 in
theorem ntake_any (B b : Nat) (s : St) (t i : Int) (w : World) (M : Int) (h : NtAt B w b s) (ok : Ok M s) (hM : M ≤ 2305843009213693952) :
    Calls Try.prog 16 #[.pointer (some ⟨b, 0, none⟩), .int .i64 t, .int .i64 i] w fun e w' => e = .returned (.tuple #[.int .i64 (taF s t i), .string (taB s t i), .int .i64 (fiE s t i)]) ∧ NtAt B w' b (off s t i 3) ∧ Ks B ntT w w' := by
  obtain ⟨q, vs, hn, hB⟩ := h
  have FI := hide (fun W (hW : NtV W b q vs s) => nfind_any b q vs s t i W hW)
  have HM := hide hn
  have HS : Hid (NtAt B w b s ∧ Ks B ntT w w) := hide (nt_same hn hB (Kp.refl _ _))
  unfold off taF taB
  by_cases hf : fiE s t i = 0
  · have hnth := (nth_mem hf).2
    obtain ⟨m, k, rfl, hm, rfl, hk⟩ := fi_at hf
    rw [hf] at FI
    simp only [hf, if_true, Int.toNat_natCast]
    have hp : nth s (m : Int) (k : Int) = (row s (m : Int))[k] := by
      obtain ⟨k', e, hk', e2⟩ := hnth
      obtain rfl : k' = k := by omega
      exact e2
    rw [hp]
    have hsz := (ok.row (m : Int)).2 _ (List.getElem_mem hk)
    have c0 := hn.cell
    have hmi : (m : Int) < (s.ws.length : Int) := by omega
    obtain ⟨v, hv, PU⟩ := npull_any b q vs s m k w hn hm hk
    have PUL := hide PU
    have CLN := hide (fun W => clone_any (row s (m : Int))[k].b W (by omega))
    have RAI : Hid (∀ w3 vs', NtV w3 b q vs' ⟨s.ws.set m ((row s (m : Int)).eraseIdx k), s.c⟩ → Calls Try.prog 30 #[.pointer (some ⟨b, 1, none⟩), .int .i64 3, .int .i64 1] w3 fun e w' => (∃ v, e = .returned v) ∧ NtV w' b q vs' ⟨s.ws.set m ((row s (m : Int)).eraseIdx k), up s.c 3 (s.c 3 + 1)⟩ ∧ Kp [b] w3 w') := hide (fun w3 vs' a1 => nraise_any b q vs' _ 3 1 w3 a1 (by decide) (ok.lo 3) (by decide) (by have := ok.hi 3; show s.c 3 + 1 ≤ _; omega))
    have FIN : Hid (∀ w3 vs' w5, Kp (q :: v.ownBlock.toList) w w3 → (∀ j ∈ ntF b q vs', j ∈ ntF b q vs ∨ w.heap.size ≤ j) → NtV w5 b q vs' ⟨s.ws.set m ((row s (m : Int)).eraseIdx k), up s.c 3 (s.c 3 + 1)⟩ → Kp [b] w3 w5 → NtAt B w5 b (put s (m : Int) ((row s (m : Int)).eraseIdx k) 3 1) ∧ Ks B ntT w w5) := hide (fun w3 vs' w5 a2 a3 a4 a5 => nt_put hn hB hv a2 a3 a4 a5)
    have hbw : b < w.heap.size := hn.lt b (mem_ntF.2 (Or.inl rfl))
    clear hn HS hB hm hv ok PU hf hp hnth
    generalize s.ws.length = n at *
    generalize put s (m : Int) ((row s (m : Int)).eraseIdx k) 3 1 = S2 at *
    generalize (row s (m : Int)).eraseIdx k = R2 at *
    generalize (row s (m : Int))[k] = p at *
    obtain ⟨fr, bb⟩ := p
    unfold pkA at PUL
    dsimp only at PUL CLN hsz ⊢
    go_enter Try.func16, Try.ntmps16
    go_wp2_with fail
    refine (unhide FI _ (unhide HM)).mono ?_
    rintro r w1 ⟨rfl, rfl⟩
    go_wp2_with fail
    refine (unhide PUL).mono ?_
    rintro r w3 ⟨rfl, vs3, a1, a2, a3⟩
    obtain ⟨V, hV⟩ : ∃ V, V = w3.alloc (.cells #[.int .i64 fr, .string bb] 72) := ⟨_, rfl⟩
    have kV : Kp [] w3 V := by rw [hV]; exact Kp.alloc _ _
    have bV : CBox w3.heap.size #[.int .i64 fr, .string bb] 72 V := by rw [hV]; exact CBox.new _ _ _
    have BV := hide bV
    have A1 := hide (a1.kp kV (by simp))
    have A2 := hide (a2.trans kV (by simp))
    have A3 := hide a3
    have hb3 : b < w3.heap.size := Nat.lt_of_lt_of_le hbw a2.size
    clear a1 a2 a3 FI HM PUL c0 kV bV
    go_upto_region 5 with fail
    rw [← hV]
    clear hV
    go_wp2_with fail
    refine (unhide RAI _ _ (unhide A1)).mono ?_
    rintro r w5 ⟨⟨v5, rfl⟩, b1, b2⟩
    have b5 := (unhide BV).kp b2 (by simp; omega)
    have HFI := hide (unhide FIN _ _ _ (unhide A2) (unhide A3) b1 b2)
    have cS : w5.drew.cell? ⟨w3.heap.size, 0, none⟩ = some (.int .i64 fr) ∧ w5.drew.cell? ⟨w3.heap.size, 1, none⟩ = some (.string bb) := ⟨b5.cell rfl, b5.cell rfl⟩
    have HB5 := hide (b5.kp (Kp.drew w5) (by simp))
    clear b1 b2 A1 A2 A3 RAI FIN b5
    go_wp2_with fail
    go_region_held3 (fun W => W.cell? ⟨w3.heap.size, 0, none⟩ = some (.int .i64 fr) ∧ W.cell? ⟨w3.heap.size, 1, none⟩ = some (.string bb))
      (first | with_reducible exact cS | with_reducible exact hc6)
      (first
        | (go_at_call 29; refine (unhide CLN _).mono ?_; rintro r w6 ⟨rfl, hb6⟩; have b6 := (unhide HB5).kp (Kp.ofBelow hb6) (by simp); have hc6 : w6.cell? ⟨w3.heap.size, 0, none⟩ = some (.int .i64 fr) ∧ w6.cell? ⟨w3.heap.size, 1, none⟩ = some (.string bb) := ⟨b6.cell rfl, b6.cell rfl⟩; have K6 := hide (kp_tr (Kp.drew w5) (Kp.ofBelow hb6)); clear hb6 b6))
    have HFJ := hide (nt_al (unhide HFI) (unhide K6))
    clear cS hc6 HFI K6 HB5 BV CLN
    go_wp2
    go_ret3
    exact ⟨rfl, unhide HFJ⟩
  · simp only [hf, if_false]
    clear hn
    generalize fiE s t i = E at *
    go_enter Try.func16, Try.ntmps16
    go_wp2_with fail
    refine (unhide FI _ (unhide HM)).mono ?_
    rintro r w1 ⟨rfl, rfl⟩
    go_wp2
    go_ret3
    exact ⟨rfl, unhide HS⟩
end Go.Proofs.Ytledoopfffhigaa
namespace Go.Proofs.Ytledoopfffhigaa
open Go.RowKit

section
variable {P : Program} {ops : Array Oper} {Q : Exit → Act → World → Prop} {md : Region.Mode} {S : World → Prop} {late : Nat}
/-- What an operation waits for. -/
def deps (md : Region.Mode) (ops : Array Oper) (j : Nat) : List Nat := match ops[j]? with
  | some o => (o.after.toList.filter (Region.binds md)).map (·.on)
  | none => []
/-- Does it wait for number i, be it through others? -/
def reach (md : Region.Mode) (ops : Array Oper) (i : Nat) : Nat → Nat → Bool
  | 0, _ => false
  | f + 1, j => (deps md ops j).any fun d => d == i || reach md ops i f d
/-- What is listed waits for what is listed. -/
def closed (md : Region.Mode) (ops : Array Oper) (listed : Array Bool) : Bool := (List.range ops.size).all fun j => !(listed.getD j false) || (deps md ops j).all fun d => listed.getD d false
theorem closed_at {listed : Array Bool} (h : closed md ops listed = true) {j : Nat} (hj : listed.getD j false = true) : ∀ d ∈ deps md ops j, listed.getD d false = true := fun d hd => by
  have hlt : j < ops.size := by
    rcases Nat.lt_or_ge j ops.size with h1 | h1
    · exact h1
    · unfold deps at hd
      rw [Array.getElem?_eq_none h1] at hd
      cases hd
  unfold closed at h
  have h1 := List.all_eq_true.1 h j (List.mem_range.2 hlt)
  rw [hj] at h1
  simp only [Bool.not_true, Bool.false_or] at h1
  exact List.all_eq_true.1 h1 d hd
theorem reach_listed {listed : Array Bool} {i : Nat} (h : closed md ops listed = true) : ∀ (f j : Nat), (∀ d ∈ deps md ops j, listed.getD d false = true) → reach md ops i f j = true → listed.getD i false = true
  | 0, _, _, hr => by cases hr
  | f + 1, j, hd, hr => by
    unfold reach at hr
    obtain ⟨d, hdm, he⟩ := List.any_eq_true.1 hr
    rw [Bool.or_eq_true] at he
    rcases he with he | he
    · rw [← beq_iff_eq.1 he]; exact hd d hdm
    · exact reach_listed h f d (closed_at h (hd d hdm)) he
theorem ready_deps {listed : Array Bool} {j : Nat} (hj : j ∈ Region.ready md ops listed) : ∀ d ∈ deps md ops j, listed.getD d false = true := fun d hd => by
  obtain ⟨_, o, ho, hall⟩ := mem_ready.1 hj
  unfold deps at hd
  rw [ho] at hd
  obtain ⟨e, he, rfl⟩ := List.mem_map.1 hd
  obtain ⟨h1, h2⟩ := List.mem_filter.1 he
  exact hall e (Array.mem_toList_iff.1 h1) h2
theorem closed_set {listed : Array Bool} {j : Nat} (h : closed md ops listed = true) (hj : j ∈ Region.ready md ops listed) : closed md ops (listed.setIfInBounds j true) = true := by
  unfold closed
  refine List.all_eq_true.2 fun k _ => ?_
  rw [Bool.or_eq_true]
  by_cases hk : (listed.setIfInBounds j true).getD k false = true
  · refine Or.inr (List.all_eq_true.2 fun d hd => getD_set_true ?_)
    by_cases e : j = k
    · subst e; exact ready_deps hj d hd
    · rw [getD_set_ne false e] at hk
      exact closed_at h hk d hd
  · left
    simp only [Bool.not_eq_true] at hk
    rw [hk]
    rfl
theorem wpAnyL_first3 {i f : Nat} {oi : Oper} {v : Value} (hi : ops[i]? = some oi) (hw : reach md ops i f late = true) (hsel : ∀ (j : Nat) (o : Oper) cs b, ops[j]? = some o → o.op ≠ .select cs b)
    (hQ : ∀ c a w, Q (.panic c) (a.put oi.dst v) w → Q (.panic c) a w) :
    ∀ (fuel : Nat) (listed : Array Bool) (a : Act) (w : World), closed md ops listed = true →
      (∀ j oj, ops[j]? = some oj → j ≠ i → listed.getD j true = false → (∀ e ∈ oj.after, Region.binds md e = true → e.on ≠ i) → oi.apart ops oj = true) →
      i ∈ Region.ready md ops listed → YieldsIf P ops S oi v a → S w →
      wpAnyL P md ops Q S late fuel (listed.setIfInBounds i true) (a.put oi.dst v) w → wpAnyL P md ops Q S late (fuel + 1) listed a w := by
  intro fuel
  induction fuel with
  | zero =>
    intro listed a w _ _ hr hy hS H
    refine ⟨fun h => (by rw [h] at hr; cases hr), fun j hj => ?_⟩
    by_cases hji : j = i
    · subst hji; exact hy.wpOp hi hS ⟨Or.inr hS, H⟩
    · have := ready_mono hj hji
      rw [H.1] at this
      cases this
  | succ fuel ih =>
    intro listed a w hcl hfree hr hy hS H
    refine ⟨fun h => (by rw [h] at hr; cases hr), fun j hj => ?_⟩
    by_cases hji : j = i
    · subst hji; exact hy.wpOp hi hS ⟨Or.inr hS, H⟩
    · have h1 := H.2 j (ready_mono hj hji)
      obtain ⟨hjun, oj, hoj, hall⟩ := mem_ready.1 hj
      have hiun : listed.getD i false ≠ true := fun h1 => by
        have h0 := (mem_ready.1 hr).1
        rcases Nat.lt_or_ge i listed.size with h' | h'
        · simp [h'] at h0 h1; rw [h0] at h1; cases h1
        · simp [Array.getElem?_eq_none h'] at h1
      have hnot : ∀ e ∈ oj.after, Region.binds md e = true → e.on ≠ i := fun e he hb heq => hiun (by rw [← heq]; exact hall e he hb)
      have hjl : j ≠ late := by
        rintro rfl
        exact hiun (reach_listed hcl f _ (ready_deps hj) hw)
      have h1' : wpOp P ops Q j (fun a' w' => S w' ∧ wpAnyL P md ops Q S late fuel ((listed.setIfInBounds i true).setIfInBounds j true) a' w') (a.put oi.dst v) w := wpOp_mono (fun a' w' h => ⟨h.1.resolve_left hjl, h.2⟩) h1
      have h2 := wpOp_putIf hoj (hfree j oj hoj hji hjun hnot) (fun cs b => hsel i oi cs b hi) (fun cs b => hsel j oj cs b hoj) hQ hy h1'
      have hfree' : ∀ k ok, ops[k]? = some ok → k ≠ i → (listed.setIfInBounds j true).getD k true = false →
          (∀ e ∈ ok.after, Region.binds md e = true → e.on ≠ i) → oi.apart ops ok = true := fun k ok hk hki hun hno => by
        refine hfree k ok hk hki ?_ hno
        by_cases hjk : j = k
        · subst hjk; exact hjun
        · rw [getD_set_ne true hjk] at hun; exact hun
      refine wpOp_mono (fun a' w' h3 => ⟨Or.inr h3.2.1, ih (listed.setIfInBounds j true) a' w' (closed_set hcl hj) hfree' (ready_mono hr (Ne.symm hji)) h3.1 h3.2.1 ?_⟩) h2
      rw [Array.setIfInBounds_comm _ _ hji]
      exact h3.2.2
/-- Take number i first. -/
theorem wpAnyL_take3 {i : Nat} {oi : Oper} {v : Value} {fuel : Nat} {listed : Array Bool} {a : Act} {w : World} (hi : ops[i]? = some oi)
    (hw : (reach md ops i ops.size late && closed md ops listed) = true) (hs : Region.noSelect ops = true) (hf : Region.free md ops listed i = true) (hr : (Region.ready md ops listed).contains i = true)
    (hQ : ∀ c a w, Q (.panic c) (a.put oi.dst v) w → Q (.panic c) a w) (hy : YieldsIf P ops S oi v a) (hS : S w)
    (h : wpAnyL P md ops Q S late fuel (listed.setIfInBounds i true) (a.put oi.dst v) w) : wpAnyL P md ops Q S late (fuel + 1) listed a w := by
  rw [Bool.and_eq_true] at hw
  exact wpAnyL_first3 hi hw.1 (Region.noSelect_spec hs) hQ fuel listed a w hw.2 (Region.free_spec hi hf) (by simpa using hr) hy hS h
end
end Go.Proofs.Ytledoopfffhigaa
