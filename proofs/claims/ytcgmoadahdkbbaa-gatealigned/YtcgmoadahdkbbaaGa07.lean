/-
  Gates: Give, Text, Barrier, Len.
  Gates: are all blocked; all first items taken off; the first open channel.
-/
import Derived.Test.YtcgmoadahdkbbaaGa06
import Derived.Test.YtcgmoadahdkbbaaGa03
namespace Go.Proofs.Ytcgmoadahdkbbaa
open Go.RowKit Gt Cr

theorem has_nat {g : Gt} {c : Int} (h : 0 ≤ c ∧ c < (g.n : Int)) : ∃ k : Nat, c = (k : Int) ∧ k < g.n ∧ c.toNat = k := ⟨c.toNat, by omega, by omega, rfl⟩
set_option maxHeartbeats 1000000 in
theorem gGive_any (B b L : Nat) (G : Gt) (c most : Int) (w : World) (h : GtAt B w b L G) :
    Calls Try.prog 16 #[.pointer (some ⟨b, 0, none⟩), .int .i64 c, .int .i64 most] w fun e w' => e = .returned (.tuple #[.int .i64 (G.gvN c most : Int), .int .i64 (G.gvE c most)]) ∧ GtAt B w' b L (G.gvS c most) ∧ Ko gtO B w w' := by
  obtain ⟨cs, rs, vs, hv, hl⟩ := id h
  by_cases hc : 0 ≤ c ∧ c < (G.n : Int)
  · obtain ⟨k, rfl, hk, e⟩ := has_nat hc
    have e1 : G.gvN (k : Int) most = Cr.gvN (G.ch k).sto most := if_pos hc
    have e2 : G.gvE (k : Int) most = Cr.gvE most := if_pos hc
    have e3 : G.gvS (k : Int) most = G.upd k ((G.ch k).gv most) := if_pos hc
    rw [e1, e2, e3]
    have LN := hide (gLine_any hv hk)
    have c0 := hv.cell0 hk
    have GV := hide (cGive_any (rs k) (G.ch k).sto most w (hv.rm k hk))
    have FI := hide (fun w1 (k1 : Kp [rs k] w w1) (h1 : CrAt w1 (rs k) (Cr.gvS (G.ch k).sto most)) => gt_stay hv hl hk (c := (G.ch k).gv most) k1 h1 rfl rfl ((hv.ok.ch k hk).gv most))
    clear hv hl h hc e1 e2 e3 e
    generalize G.upd k ((G.ch k).gv most) = G2 at *
    generalize Cr.gvS (G.ch k).sto most = S2 at *
    generalize Cr.gvN (G.ch k).sto most = N2 at *
    generalize Cr.gvE most = E2 at *
    generalize k * 3 = o at *
    generalize rs k = R at *
    go_enter Try.func16, Try.ntmps16
    go_wp2_with fail
    refine (unhide LN).mono ?_
    rintro r w1 ⟨rfl, rfl⟩
    go_wp2_with fail
    refine (unhide GV).mono ?_
    rintro r w1 ⟨rfl, h1, h2⟩
    have F2 := hide (unhide FI _ h2 h1)
    clear h1 h2 FI GV LN c0
    go_wp2
    go_ret2
    exact ⟨rfl, unhide F2⟩
  · have e1 : G.gvN c most = 0 := if_neg hc
    have e2 : G.gvE c most = 210 := if_neg hc
    have e3 : G.gvS c most = G := if_neg hc
    rw [e1, e2, e3]
    have LN := hide (gLine_not hv hc)
    have HH := hide h
    clear h hv hl e1 e2 e3 hc
    go_enter Try.func16, Try.ntmps16
    go_wp2_with fail
    refine (unhide LN).mono ?_
    rintro r w1 ⟨rfl, rfl⟩
    go_wp2
    go_ret2
    exact ⟨rfl, unhide HH, Ko.refl _ _ _⟩
set_option maxHeartbeats 1000000 in
theorem gLen_any (B b L : Nat) (G : Gt) (c : Int) (w : World) (h : GtAt B w b L G) :
    Calls Try.prog 19 #[.pointer (some ⟨b, 0, none⟩), .int .i64 c] w fun e w' => e = .returned (.tuple #[.int .i64 (G.leN c : Int), .int .i64 (G.leE c)]) ∧ w' = w := by
  obtain ⟨cs, rs, vs, hv, hl⟩ := id h
  by_cases hc : 0 ≤ c ∧ c < (G.n : Int)
  · obtain ⟨k, rfl, hk, e⟩ := has_nat hc
    have e1 : G.leN (k : Int) = (G.ch k).q.length := if_pos hc
    have e2 : G.leE (k : Int) = 0 := if_pos hc
    rw [e1, e2]
    have LN := hide (gLine_any hv hk)
    have c0 := hv.cell0 hk
    have GV := hide (cLen_any (rs k) (G.ch k).sto w (hv.rm k hk))
    rw [show (G.ch k).sto.q.length = (G.ch k).q.length from List.length_replicate] at GV
    clear hv hl h hc e1 e2 e
    generalize (G.ch k).q.length = N2 at *
    generalize k * 3 = o at *
    generalize rs k = R at *
    go_enter Try.func19, Try.ntmps19
    go_wp2_with fail
    refine (unhide LN).mono ?_
    rintro r w1 ⟨rfl, rfl⟩
    go_wp2_with fail
    refine (unhide GV).mono ?_
    rintro r w2 ⟨rfl, rfl⟩
    go_wp2
    go_ret2
    exact ⟨rfl, rfl⟩
  · have e1 : G.leN c = 0 := if_neg hc
    have e2 : G.leE c = 210 := if_neg hc
    rw [e1, e2]
    have LN := hide (gLine_not hv hc)
    clear h hv hl e1 e2 hc
    go_enter Try.func19, Try.ntmps19
    go_wp2_with fail
    refine (unhide LN).mono ?_
    rintro r w1 ⟨rfl, rfl⟩
    go_wp2
    go_ret2
    exact ⟨rfl, rfl⟩
set_option maxHeartbeats 1000000 in
theorem gText_any (B b L : Nat) (G : Gt) (c : Int) (t : ByteArray) (w : World) (h : GtAt B w b L G) (ht : t.size ≤ 9223372036854775807) :
    Calls Try.prog 17 #[.pointer (some ⟨b, 0, none⟩), .int .i64 c, .string t] w fun e w' => e = .returned (.int .i64 (G.txE c t)) ∧ GtAt B w' b L (G.txS c t) ∧ Ko gtO B w w' := by
  obtain ⟨cs, rs, vs, hv, hl⟩ := id h
  by_cases hc : 0 ≤ c ∧ c < (G.n : Int)
  · obtain ⟨k, rfl, hk, e⟩ := has_nat hc
    have LN := hide (gLine_any hv hk)
    by_cases h1 : 60000 < t.size
    · have e2 : G.txE (k : Int) t = 2 := by unfold Gt.txE; rw [if_pos hc, if_pos h1]
      have e3 : G.txS (k : Int) t = G := by unfold Gt.txS; rw [if_pos hc, if_pos h1]
      rw [e2, e3]
      have h1i : (60000 : Int) < (t.size : Int) := by omega
      have HH := hide h
      clear h hv hl e2 e3 hc e
      generalize k * 3 = o at *
      go_enter Try.func17, Try.ntmps17
      go_wp2_with fail
      refine (unhide LN).mono ?_
      rintro r w1 ⟨rfl, rfl⟩
      go_wp2
      go_ret
      exact ⟨rfl, unhide HH, Ko.refl _ _ _⟩
    · have e2 : G.txE (k : Int) t = (G.ch k).psE := by unfold Gt.txE; rw [if_pos hc, if_neg h1, e]
      have e3 : G.txS (k : Int) t = G.upd k ((G.ch k).ps ⟨t, 0⟩) := by unfold Gt.txS; rw [if_pos hc, if_neg h1, e]
      rw [e2, e3]
      have h1i : ¬ (60000 : Int) < (t.size : Int) := by omega
      have CL := hide (fun W => clone_any t W (by omega))
      have PU := hide (fun W (hk1 : Kp [] w W) => gPush_any B b L G k ⟨t, 0⟩ W (h.kp hk1) hk)
      clear h hv hl e2 e3 hc e h1
      generalize G.upd k ((G.ch k).ps ⟨t, 0⟩) = G2 at *
      generalize (G.ch k).psE = E2 at *
      generalize k * 3 = o at *
      go_enter Try.func17, Try.ntmps17
      go_wp2_with fail
      refine (unhide LN).mono ?_
      rintro r w1 ⟨rfl, rfl⟩
      go_wp2_with fail
      refine (unhide CL _).mono ?_
      rintro r w2 ⟨rfl, hb⟩
      have K2 := hide (Kp.ofBelow hb)
      clear hb
      go_wp2_with fail
      refine (unhide PU _ (unhide K2)).mono ?_
      rintro r w3 ⟨rfl, h3, h4⟩
      have H3 := hide h3
      have H4 := hide ((Ko.nil (unhide K2)).trans h4)
      clear h3 h4
      go_wp2
      go_ret
      exact ⟨rfl, unhide H3, unhide H4⟩
  · have e2 : G.txE c t = 210 := if_neg hc
    have e3 : G.txS c t = G := if_neg hc
    rw [e2, e3]
    have LN := hide (gLine_not hv hc)
    have HH := hide h
    clear h hv hl e2 e3 hc
    go_enter Try.func17, Try.ntmps17
    go_wp2_with fail
    refine (unhide LN).mono ?_
    rintro r w1 ⟨rfl, rfl⟩
    go_wp2
    go_ret
    exact ⟨rfl, unhide HH, Ko.refl _ _ _⟩
set_option maxHeartbeats 2000000 in
theorem gPushB_any (B b L : Nat) (G : Gt) (k : Nat) (n : Int) (w : World) (h : GtAt B w b L G) (hk : k < G.n) (hn : (G.ch k).next ≤ 4611686018427387904) :
    Calls Try.prog 34 #[.pointer (some ⟨L, k * 3, none⟩), .int .i64 n] w fun e w' => e = .returned (.int .i64 ((G.ch k).pbE n)) ∧ GtAt B w' b L (G.upd k ((G.ch k).pb n)) ∧ Ko gtO B w w' := by
  have c2 : w.cell? ⟨L, k * 3 + 2, none⟩ = some (.int .i64 ((G.ch k).next : Int)) := by obtain ⟨cs, rs, vs, hv, hl⟩ := h; exact hv.cell2 hk
  by_cases he : n = ((G.ch k).next : Int)
  · have e1 : (G.ch k).pbE n = (G.ch k).psE := if_pos he
    have e2 : (G.ch k).pb n = (if (G.ch k).owed = 0 then G.ch k else ⟨(G.ch k).cap, (G.ch k).owed - 1, (G.ch k).q ++ [⟨⟨#[]⟩, (G.ch k).next⟩], (G.ch k).next + 1⟩) := if_pos he
    rw [e1, e2]
    have PU := hide (gPush_any B b L G k ⟨⟨#[]⟩, (G.ch k).next⟩ w h hk)
    subst he
    by_cases hq : (G.ch k).owed = 0
    · have eE : (G.ch k).psE = 200 := if_pos hq
      have eS : (G.ch k).ps ⟨⟨#[]⟩, (G.ch k).next⟩ = G.ch k := if_pos hq
      rw [if_pos hq, eE]
      rw [eE, eS] at PU
      clear h e1 e2 hq eE eS
      generalize G.upd k (G.ch k) = G2 at *
      generalize (G.ch k).next = m at *
      generalize k * 3 = o at *
      go_enter Try.func34, Try.ntmps34
      go_wp2_with fail
      refine (unhide PU).mono ?_
      rintro r w1 ⟨rfl, h1, h2⟩
      have H1 := hide h1
      have H2 := hide h2
      clear h1 h2
      go_wp2
      go_ret
      exact ⟨rfl, unhide H1, unhide H2⟩
    · have eE : (G.ch k).psE = 0 := if_neg hq
      have eS : (G.ch k).ps ⟨⟨#[]⟩, (G.ch k).next⟩ = ⟨(G.ch k).cap, (G.ch k).owed - 1, (G.ch k).q ++ [⟨⟨#[]⟩, (G.ch k).next⟩], (G.ch k).next⟩ := if_neg hq
      rw [if_neg hq, eE]
      rw [eE, eS] at PU
      have FI : Hid (∀ w1, GtAt B w1 b L (G.upd k ⟨(G.ch k).cap, (G.ch k).owed - 1, (G.ch k).q ++ [⟨⟨#[]⟩, (G.ch k).next⟩], (G.ch k).next⟩) → w1.cell? ⟨L, k * 3 + 2, none⟩ = some (.int .i64 ((G.ch k).next : Int)) ∧ w1.frozen? ⟨L, k * 3 + 2, none⟩ = false ∧ GtAt B (w1.setCell ⟨L, k * 3 + 2, none⟩ (.int .i64 (((G.ch k).next : Int) + 1))) b L (G.upd k ⟨(G.ch k).cap, (G.ch k).owed - 1, (G.ch k).q ++ [⟨⟨#[]⟩, (G.ch k).next⟩], (G.ch k).next + 1⟩) ∧ Ko gtO B w1 (w1.setCell ⟨L, k * 3 + 2, none⟩ (.int .i64 (((G.ch k).next : Int) + 1)))) := hide (fun w1 h1 => by
        obtain ⟨cs, rs, vs, hv, hl⟩ := id h1
        have := hv.cell2 hk
        rw [Gt.upd_same] at this
        refine ⟨this, hv.lb.froz _, ?_⟩
        have := gt_next h1 hk ((G.ch k).next + 1)
        rw [Gt.upd_same, Gt.upd_upd] at this
        exact this)
      clear h e1 e2 hq eE eS
      generalize G.upd k ⟨(G.ch k).cap, (G.ch k).owed - 1, (G.ch k).q ++ [⟨⟨#[]⟩, (G.ch k).next⟩], (G.ch k).next⟩ = G2 at *
      generalize G.upd k ⟨(G.ch k).cap, (G.ch k).owed - 1, (G.ch k).q ++ [⟨⟨#[]⟩, (G.ch k).next⟩], (G.ch k).next + 1⟩ = G3 at *
      generalize (G.ch k).next = m at *
      generalize k * 3 = o at *
      have hw : IntKind.i64.wrap ((m : Int) + 1) = (m : Int) + 1 := by simp [IntKind.wrap, IntKind.signed, go_sem]; omega
      go_enter Try.func34, Try.ntmps34
      go_wp2_with fail
      refine (unhide PU).mono ?_
      rintro r w1 ⟨rfl, h1, h2⟩
      obtain ⟨d1, d2, d3, d4⟩ := unhide FI _ h1
      have H1 := hide d3
      have H2 := hide (h2.trans d4)
      clear h1 h2 d3 d4 FI PU c2
      go_wp2
      go_ret
      exact ⟨rfl, unhide H1, unhide H2⟩
  · have e1 : (G.ch k).pbE n = 1 := if_neg he
    have e2 : (G.ch k).pb n = G.ch k := if_neg he
    rw [e1, e2, Gt.upd_self]
    have HH := hide h
    clear h e1 e2
    generalize (G.ch k).next = m at *
    generalize k * 3 = o at *
    go_enter Try.func34, Try.ntmps34
    go_wp2
    go_ret
    exact ⟨rfl, unhide HH, Ko.refl _ _ _⟩
set_option maxHeartbeats 1000000 in
theorem gBarrier_any (B b L : Nat) (G : Gt) (c n : Int) (w : World) (h : GtAt B w b L G) (hn : ∀ k, k < G.n → (G.ch k).next ≤ 4611686018427387904) :
    Calls Try.prog 18 #[.pointer (some ⟨b, 0, none⟩), .int .i64 c, .int .i64 n] w fun e w' => e = .returned (.int .i64 (G.baE c n)) ∧ GtAt B w' b L (G.baS c n) ∧ Ko gtO B w w' := by
  obtain ⟨cs, rs, vs, hv, hl⟩ := id h
  by_cases hc : 0 ≤ c ∧ c < (G.n : Int)
  · obtain ⟨k, rfl, hk, e⟩ := has_nat hc
    have LN := hide (gLine_any hv hk)
    have e2 : G.baE (k : Int) n = (G.ch k).pbE n := if_pos hc
    have e3 : G.baS (k : Int) n = G.upd k ((G.ch k).pb n) := if_pos hc
    rw [e2, e3]
    have PU := hide (gPushB_any B b L G k n w h hk (hn k hk))
    clear h hv hl e2 e3 hc e hn
    generalize G.upd k ((G.ch k).pb n) = G2 at *
    generalize (G.ch k).pbE n = E2 at *
    generalize k * 3 = o at *
    go_enter Try.func18, Try.ntmps18
    go_wp2_with fail
    refine (unhide LN).mono ?_
    rintro r w1 ⟨rfl, rfl⟩
    go_wp2_with fail
    refine (unhide PU).mono ?_
    rintro r w3 ⟨rfl, h3, h4⟩
    have H3 := hide h3
    have H4 := hide h4
    clear h3 h4
    go_wp2
    go_ret
    exact ⟨rfl, unhide H3, unhide H4⟩
  · have e2 : G.baE c n = 210 := if_neg hc
    have e3 : G.baS c n = G := if_neg hc
    rw [e2, e3]
    have LN := hide (gLine_not hv hc)
    have HH := hide h
    clear h hv hl e2 e3 hc hn
    go_enter Try.func18, Try.ntmps18
    go_wp2_with fail
    refine (unhide LN).mono ?_
    rintro r w1 ⟨rfl, rfl⟩
    go_wp2
    go_ret
    exact ⟨rfl, unhide HH, Ko.refl _ _ _⟩
end Go.Proofs.Ytcgmoadahdkbbaa
namespace Go.Proofs.Ytcgmoadahdkbbaa
open Go.RowKit Gt Cr

theorem all_false {g : Gt} {k : Nat} (hk : k < g.n) (h : (g.ch k).blk = false) : g.all = false := by
  unfold Gt.all
  rw [List.all_eq_false]
  exact ⟨k, List.mem_range.2 hk, by rw [h]; simp⟩
theorem all_true {g : Gt} (h : ∀ k, k < g.n → (g.ch k).blk = true) : g.all = true := by
  unfold Gt.all
  exact List.all_eq_true.2 fun k hk => h k (List.mem_range.1 hk)
theorem all_at {g : Gt} (h : g.all = true) {k : Nat} (hk : k < g.n) : (g.ch k).blk = true := by
  unfold Gt.all at h
  exact List.all_eq_true.1 h k (List.mem_range.2 hk)
theorem not_all {g : Gt} (h : g.all = false) : ∃ k, k < g.n ∧ (g.ch k).blk = false := by
  unfold Gt.all at h
  obtain ⟨k, hk, hb⟩ := List.all_eq_false.1 h
  exact ⟨k, List.mem_range.1 hk, by simpa using hb⟩
set_option maxHeartbeats 2000000 in
set_option maxRecDepth 100000 in
theorem gAll_any {w : World} {b L : Nat} {cs : Array Value} {rs : Nat → Nat} {vs : Nat → Value} {G : Gt} (h : GtV w b L cs rs vs G) :
    Calls Try.prog 26 #[.slice (some ⟨L, 0, none⟩) G.n G.n] w fun e w' => e = .returned (.bool G.all) ∧ w' = w := by
  have BK := hide (fun k (hk : k < G.n) => gBlk_any h hk)
  have hn1 := h.ok.n1
  have FA := hide (fun k (hk : k < G.n) (hb : (G.ch k).blk = false) => all_false hk hb)
  have FT := hide (fun (hb : ∀ k, k < G.n → (G.ch k).blk = true) => all_true hb)
  clear h
  generalize G.all = R at *
  generalize G.n = n at *
  go_enter Try.func26, Try.ntmps26
  go_wp2
  go_loopw [6] (fun i wr => ∃ k : Nat, k ≤ n ∧ i = .int .i64 (k : Int) ∧ wr = w ∧ Hid (∀ j, j < k → (G.ch j).blk = true)) (fun i _ => n - (intOf i).toNat)
  case atStart => exact ⟨0, Nat.zero_le _, rfl, rfl, hide (fun j hj => absurd hj (Nat.not_lt_zero j))⟩
  case round =>
    obtain ⟨k, hk, rfl, rfl, HN⟩ := hrel
    by_cases hlt : k < n
    · have hli : (k : Int) < (n : Int) := by omega
      have BK2 := hide (unhide BK k hlt)
      cases hb : (G.ch k).blk with
      | false =>
        rw [hb] at BK2
        have hR := unhide FA k hlt hb
        subst hR
        go_wp2_with fail
        refine (unhide BK2).mono ?_
        rintro r w2 ⟨rfl, rfl⟩
        go_wp2
        go_ret
        exact ⟨rfl, rfl⟩
      | true =>
        rw [hb] at BK2
        go_wp2_with fail
        refine (unhide BK2).mono ?_
        rintro r w2 ⟨rfl, rfl⟩
        go_wp2
        go_roundw
        case rel => exact ⟨k + 1, by omega, by go_num, by trivial, hide (fun j hj => by
          by_cases e : j = k
          · subst e; exact hb
          · exact unhide HN j (by omega))⟩
        case measure => simp [intOf]; omega
    · obtain rfl : k = n := by omega
      have hR := unhide FT (fun j hj => unhide HN j hj)
      subst hR
      go_wp2
      go_ret
      exact ⟨rfl, rfl⟩
theorem run_fld1 (a b : Value) (W : World) : (Instr.field 81 (.agg #[a, b]) 1).run Try.prog W = .ok b W := by kernel_rfl
theorem run_fld0 (a b : Value) (W : World) : (Instr.field 81 (.agg #[a, b]) 0).run Try.prog W = .ok a W := by kernel_rfl
set_option maxHeartbeats 2000000 in
set_option maxRecDepth 100000 in
theorem gShiftAll_any (B b L : Nat) (G : Gt) (w : World) (h : GtAt B w b L G) (hq : ∀ k, k < G.n → 0 < (G.ch k).q.length) :
    Calls Try.prog 27 #[.slice (some ⟨L, 0, none⟩) G.n G.n] w fun e w' => e = .returned (.int .i64 (Gt.bar G G.n : Int)) ∧ GtAt B w' b L (G.tls G.n) ∧ Ko gtO B w w' := by
  have hn1 := h.ok.n1
  have SH := hide (fun k (hk : k < G.n) W (hW : GtAt B W b L (G.tls k)) => gShift_any B b L (G.tls k) k W hW hk (by rw [Gt.tls_ch]; exact hq k hk))
  have H0 : Hid (GtAt B w b L (G.tls 0)) := hide (by rw [Gt.tls_zero]; exact h)
  clear h hq
  obtain ⟨n, hn⟩ : ∃ n, n = G.n := ⟨_, rfl⟩
  rw [← hn] at SH hn1 ⊢
  have HN := hide hn
  clear hn
  go_enter Try.func27, Try.ntmps27
  go_wp2
  go_loopw [3, 7] (fun m i wr => ∃ k : Nat, k ≤ n ∧ i = .int .i64 (k : Int) ∧ m = .int .i64 (Gt.bar G k : Int) ∧ Hid (GtAt B wr b L (G.tls k) ∧ Ko gtO B w wr)) (fun _ i _ => n - (intOf i).toNat)
  case atStart => exact ⟨0, Nat.zero_le _, rfl, rfl, hide ⟨unhide H0, Ko.refl _ _ _⟩⟩
  case round =>
    obtain ⟨k, hk, rfl, rfl, HW⟩ := hrel
    by_cases hlt : k < n
    · have hli : (k : Int) < (n : Int) := by omega
      have SH2 := hide (unhide SH k hlt _ (unhide HW).1)
      rw [Gt.tls_ch, show (G.tls k).upd k (G.ch k).tl = G.tls (k + 1) by rw [Gt.tls_succ, Gt.tls_ch]] at SH2
      have HB : Hid ((G.ch k).hd.n = Gt.bar G (k + 1)) := hide (by unfold Gt.bar; rw [if_neg (by omega)]; rfl)
      rw [unhide HB] at SH2
      generalize (G.ch k).hd.t = ht' at *
      go_wp2_with fail
      refine (unhide SH2).mono ?_
      rintro r w2 ⟨rfl, h2, h3⟩
      have H2 := hide (And.intro h2 ((unhide HW).2.trans h3))
      clear h2 h3 SH2
      have f1 := run_fld1
      go_wp2
      go_roundw
      case rel => exact ⟨k + 1, by omega, by go_num, rfl, H2⟩
      case measure => simp [intOf]; omega
    · obtain rfl : k = n := by omega
      go_wp2
      go_ret
      exact ⟨rfl, (unhide HW).1, (unhide HW).2⟩
theorem fst_none {g : Gt} (h : ∀ k, k < g.n → (g.ch ((g.turn + k) % g.n)).opn = false) : g.fst = none := by
  unfold Gt.fst
  rw [Option.map_eq_none_iff, List.find?_eq_none]
  intro k hk
  rw [h k (List.mem_range.1 hk)]
  simp
theorem range_split {k n : Nat} (hk : k < n) : List.range n = List.range k ++ k :: (List.range n).drop (k + 1) := by
  have h1 : k < (List.range n).length := by simpa using hk
  have h2 := List.take_append_drop k (List.range n)
  rw [List.drop_eq_getElem_cons h1, List.getElem_range, List.take_range, Nat.min_eq_left (by omega)] at h2
  exact h2.symm
theorem fst_some {g : Gt} {k : Nat} (hk : k < g.n) (h : ∀ j, j < k → (g.ch ((g.turn + j) % g.n)).opn = false) (hk1 : (g.ch ((g.turn + k) % g.n)).opn = true) : g.fst = some ((g.turn + k) % g.n) := by
  unfold Gt.fst
  have : (List.range g.n).find? (fun k => (g.ch ((g.turn + k) % g.n)).opn) = some k := by
    refine List.find?_eq_some_iff_append.2 ⟨hk1, List.range k, (List.range g.n).drop (k + 1), range_split hk, fun j hj => ?_⟩
    rw [h j (List.mem_range.1 hj)]
    rfl
  rw [this]
  rfl
set_option maxHeartbeats 2000000 in
set_option maxRecDepth 100000 in
theorem gFirst_any {w : World} {b L : Nat} {cs : Array Value} {rs : Nat → Nat} {vs : Nat → Value} {G : Gt} (h : GtV w b L cs rs vs G) :
    Calls Try.prog 28 #[.slice (some ⟨L, 0, none⟩) G.n G.n, .int .i64 (G.turn : Int)] w fun e w' => e = .returned (.tuple #[.int .i64 G.fsI, .bool G.fst.isSome]) ∧ w' = w := by
  have hn1 := h.ok.n1
  have hn0 := h.ok.n0
  have ht := h.ok.tn
  have OP := hide (fun k (hk : k < G.n) => gOpn_any h (k := (G.turn + k) % G.n) (Nat.mod_lt _ hn0))
  have FS := hide (fun k (hk : k < G.n) a c => fst_some (g := G) hk a c)
  have FN := hide (fun a => fst_none (g := G) a)
  unfold Gt.fsI
  clear h
  generalize G.fst = R at *
  generalize G.n = n at *
  generalize G.turn = t at *
  go_enter Try.func28, Try.ntmps28
  go_wp2
  go_loopw [10] (fun i wr => ∃ k : Nat, k ≤ n ∧ i = .int .i64 (k : Int) ∧ wr = w ∧ Hid (∀ j, j < k → (G.ch ((t + j) % n)).opn = false)) (fun i _ => n - (intOf i).toNat)
  case atStart => exact ⟨0, Nat.zero_le _, rfl, rfl, hide (fun j hj => absurd hj (Nat.not_lt_zero j))⟩
  case round =>
    obtain ⟨k, hk, rfl, rfl, HN⟩ := hrel
    by_cases hlt : k < n
    · have hli : (k : Int) < (n : Int) := by omega
      have BK2 := hide (unhide OP k hlt)
      have hw : IntKind.i64.wrap ((t : Int) + (k : Int)) = ((t + k : Nat) : Int) := by simp [IntKind.wrap, IntKind.signed, go_sem]; omega
      have hne : ¬ (n : Int) = 0 := by omega
      have hne2 : ¬ n = 0 := by omega
      have hm : ((t + k : Nat) : Int).tmod (n : Int) = (((t + k) % n : Nat) : Int) := tmod_nat _ _
      have hml : (t + k) % n < n := Nat.mod_lt _ hn0
      have HK1 : Hid (∀ (o : (G.ch ((t + k) % n)).opn = true), R = some ((t + k) % n)) := hide (fun o => unhide FS k hlt (unhide HN) o)
      cases hb : (G.ch ((t + k) % n)).opn with
      | true =>
        rw [hb] at BK2
        have hR := unhide HK1 hb
        subst hR
        have HNX : Hid (∀ j, j < k → (G.ch ((t + j) % n)).opn = false) := HN
        clear HN FN FS HK1 OP hb HNX
        generalize hQ : (t + k) % n = q at *
        have HQ := hide hQ
        clear hQ
        generalize hT : t + k = tk at *
        have HT := hide hT
        clear hT
        go_wp2_with fail
        refine (unhide BK2).mono ?_
        rintro r w2 ⟨rfl, rfl⟩
        go_wp2
        go_ret2
        exact ⟨by rw [← unhide HQ, ← unhide HT]; rfl, rfl⟩
      | false =>
        rw [hb] at BK2
        have HN2 : Hid (∀ j, j < k + 1 → (G.ch ((t + j) % n)).opn = false) := hide (fun j hj => by
          by_cases e : j = k
          · subst e; exact hb
          · exact unhide HN j (by omega))
        clear HN HK1 hb
        generalize (t + k) % n = q at *
        generalize t + k = tk at *
        go_wp2_with fail
        refine (unhide BK2).mono ?_
        rintro r w2 ⟨rfl, rfl⟩
        go_wp2
        go_roundw
        case rel => exact ⟨k + 1, by omega, by go_num, by trivial, HN2⟩
        case measure => simp [intOf]; omega
    · obtain rfl : k = n := by omega
      have hR := unhide FN (fun j hj => unhide HN j hj)
      subst hR
      go_wp2
      go_ret2
      exact ⟨rfl, rfl⟩
end Go.Proofs.Ytcgmoadahdkbbaa
