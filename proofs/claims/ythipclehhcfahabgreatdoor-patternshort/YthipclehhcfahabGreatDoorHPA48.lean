/-
  PatternShort: the first stages of a pattern that may be are one, too; without its first stage it is none.
-/
import Derived.Test.YthipclehhcfahabGreatDoorHPA47
import Derived.Test.YthipclehhcfahabGreatDoorHPA46
namespace Go.Proofs.YthipclehhcfahabGreatDoor
open Go.RowKit Go.Shelf

theorem bad1_all (l : List Stg) : ∀ (ah : List ByteArray) (i : Nat), (∀ k (h : k < l.length), stOk l[k] (ah ++ nmsOf (l.take k)) = true) → bad1 l ah i = none := by
  induction l with
  | nil => intro ah i _; rfl
  | cons s r ih =>
    intro ah i h
    rw [bad1, if_pos (by have := h 0 (by simp); simpa only [List.take_zero, nmsOf, List.map_nil, List.append_nil, List.getElem_cons_zero] using this)]
    refine ih _ _ (fun k hk => ?_)
    have := h (k + 1) (by simpa using hk)
    simpa [nmsOf] using this
theorem pc_short {p : Ptn} (h : (pcR p).2 = 0) (j : Nat) (h1 : 1 ≤ j) (hj : j ≤ p.ss.length) (v : Int) (hv : 1 ≤ v ∧ v ≤ 256) : pcR ⟨p.ss.take j, v⟩ = (0, 0) := by
  obtain ⟨p1, p2, _, p4⟩ := pc_ok h
  have hlen : (p.ss.take j).length = j := by rw [List.length_take]; omega
  unfold pcR
  rw [if_neg (by dsimp only; omega)]
  dsimp only
  rw [bad1_all (p.ss.take j) [] 0 (fun k hk => by
    have := p4 k (by omega)
    rw [List.nil_append, List.take_take, show min k j = k by omega, List.getElem_take]
    exact this)]
  dsimp only
  rw [if_pos (by unfold wiOk; simp; omega)]
theorem pc_less {p : Ptn} (h : (pcR p).2 = 0) (v : Int) : pcR ⟨p.ss.drop 1, v⟩ = (0, 120) := by
  obtain ⟨p1, p2, _, p4⟩ := pc_ok h
  unfold pcR
  dsimp only
  rw [List.length_drop]
  by_cases h1 : p.ss.length = 1
  · rw [if_pos (by omega)]
  · rw [if_neg (by omega)]
    have hs := p4 1 (by omega)
    rw [List.drop_eq_getElem_cons (by omega : 1 < p.ss.length), bad1]
    have hn : stOk p.ss[1] [] = false := by
      unfold stOk hwOk at hs ⊢
      simp only [Bool.and_eq_true, decide_eq_true_eq] at hs
      have hl : (nmsOf (p.ss.take 1)).length = 1 := by rw [nmsOf_len, List.length_take]; omega
      rw [hl] at hs
      have h3 := hs.2.2.1.2.2
      have h0 : p.ss[1].hw ≠ 0 := by
        intro e
        rw [e] at h3
        simp at h3
      have : (decide (p.ss[1].hw = 0) == decide (([] : List ByteArray).length = 0)) = false := by simp [h0]
      rw [this]
      simp
    rw [hn]
    rfl
theorem ck3_size {x : List Pt} (h : ckK x = 3) : x ≠ [] ∧ x.length ≤ 200 := by
  obtain ⟨_, _, _, _, h4, h5, _⟩ := ckK_leaves (x := x) (by rw [h]; decide)
  refine ⟨fun e => ?_, h5⟩
  subst e
  exact absurd h (by decide)
theorem StsAt.take {w : World} {ad : Option Addr} {l : List SR} (h : StsAt w ad l) (j : Nat) : StsAt w ad (l.take j) := fun hne => by
  obtain ⟨b, off, e, hlt, hc⟩ := h (fun e => hne (by rw [e]; simp))
  refine ⟨b, off, e, hlt, fun i hi => ?_⟩
  rw [List.length_take] at hi
  have := hc i (by omega)
  rw [List.getElem_take]
  exact this
theorem StsAt.rest {w : World} {b off : Nat} {l : List SR} (h : StsAt w (some ⟨b, off, none⟩) l) : StsAt w (some ⟨b, off + 4, none⟩) (l.drop 1) := fun hne => by
  obtain ⟨b', off', e, hlt, hc⟩ := h (fun e => hne (by rw [e]; rfl))
  cases e
  refine ⟨b, off + 4, rfl, hlt, fun i hi => ?_⟩
  rw [List.length_drop] at hi
  have := hc (1 + i) (by omega)
  rw [List.getElem_drop]
  rw [show off + (1 + i) * 4 = off + 4 + i * 4 by omega] at this
  exact this
theorem stgs_take (l : List SR) (j : Nat) : stgs (l.take j) = (stgs l).take j := by unfold stgs; rw [List.map_take]
theorem stgs_drop (l : List SR) (j : Nat) : stgs (l.drop j) = (stgs l).drop j := by unfold stgs; rw [List.map_drop]
theorem part_nat (x : Int) (n : Nat) (hn : 1 ≤ n) : ∃ J : Nat, J < n ∧ (IntKind.u64.wrap x).tmod (n : Int) = (J : Int) := by
  rw [IntKind.wrap_u64, Int.tmod_eq_emod_of_nonneg (by omega)]
  refine ⟨((x % 18446744073709551616) % (n : Int)).toNat, ?_, ?_⟩
  · have h1 := Int.emod_lt_of_pos (x % 18446744073709551616) (show (0 : Int) < n by omega)
    have h2 := Int.emod_nonneg (x % 18446744073709551616) (show (n : Int) ≠ 0 by omega)
    omega
  · have h2 := Int.emod_nonneg (x % 18446744073709551616) (show (n : Int) ≠ 0 by omega)
    omega
theorem fld0 (A : Option Addr) (n c : Nat) (x : Int) (W : World) : (Instr.field 40 (.agg #[.slice A n c, .int .i64 x]) 0).run Tryz.prog W = .ok (.slice A n c) W := by
  simp [Instr.field, asAgg, go_sem]
set_option maxHeartbeats 4000000 in
set_option maxRecDepth 100000 in
theorem pshort_walk (sa : Option Addr) (sc : Nat) (l : List SR) (wi many within : Int) (w : World) (hl : l.length ≤ 9223372036854775807) (h : StsAt w sa l) (hok : ∀ r ∈ l, r.s.ok) (hT : TbP w) :
    Calls Tryz.prog 8 #[.agg #[.slice sa l.length sc, .int .i64 wi], .int .i64 many, .int .i64 within] w fun e w' => e = .returned (.bool true) ∧ Kp [] w w' := by
  have k0 : Kp [] w (w.alloc (.cells #[.slice sa l.length sc, .int .i64 wi] 40)) := Kp.alloc _ _
  have hP := CBox.new w #[.slice sa l.length sc, .int .i64 wi] 40
  have WK := hide (pworks_any _ (hT.kp k0 (by simp)))
  have HV : Hid (∀ W, Kp [] (w.alloc (.cells #[.slice sa l.length sc, .int .i64 wi] 40)) W → (W.cell? ⟨w.heap.size, 0, none⟩ = some (.slice sa l.length sc) ∧ W.cell? ⟨w.heap.size, 1, none⟩ = some (.int .i64 wi)) ∧ Hid (Kp [] w W) ∧ Hid (StsAt W sa l) ∧ Hid (TbP W) ∧ w.heap.size < W.heap.size) := hide (fun W hk => ⟨⟨(hP.kp hk (by simp)).cell rfl, (hP.kp hk (by simp)).cell rfl⟩, hide (k0.trans hk (by simp)), hide (h.kp (k0.trans hk (by simp))), hide (hT.kp (k0.trans hk (by simp)) (by simp)), by have := hk.size; simp at this; omega⟩)
  have HCK : Hid (∀ W, StsAt W sa l → TbE W → Calls Tryz.prog 20 #[.agg #[.slice sa l.length sc, .int .i64 wi]] W fun e w' => e = .returned (.tuple #[.int .i64 (pcR ⟨stgs l, wi⟩).1, .int .i64 (pcR ⟨stgs l, wi⟩).2]) ∧ Below W.heap.size W w') := hide (fun W h1 h2 => pcheck_any sa sc l wi W h1 h2 hok hl)
  have HPO : Hid ((pcR ⟨stgs l, wi⟩).2 = 0 → 1 ≤ l.length ∧ l.length ≤ 8 ∧ (∀ W, StsAt W sa l → Calls Tryz.prog 19 #[.agg #[.slice sa l.length sc, .int .i64 wi]] W fun e w' => ∃ g cap rs, e = .returned (.agg #[.slice (some ⟨g, 0, none⟩) l.length cap, .int .i64 wi]) ∧ StsAt w' (some ⟨g, 0, none⟩) (rs : List SR) ∧ stgs rs = stgs l ∧ l.length ≤ cap ∧ Kp [] W w' ∧ W.heap.size ≤ g ∧ (∀ r ∈ rs, r.s.cd ≠ [] → ∀ b off, r.ad = some ⟨b, off, none⟩ → w.heap.size ≤ b → W.heap.size ≤ b)) ∧ (∀ (a : Option Addr) (cap : Nat) (v : Int) W, TbE W → Calls Tryz.prog 20 #[.agg #[.slice a 0 cap, .int .i64 v]] W fun e w' => e = .returned (.tuple #[.int .i64 0, .int .i64 120]) ∧ Below W.heap.size W w') ∧ (∀ (rs : List SR) (g cap j : Nat) (v : Int) W, StsAt W (some ⟨g, 0, none⟩) rs → stgs rs = stgs l → TbE W → j < l.length → 1 ≤ v ∧ v ≤ 256 → Calls Tryz.prog 20 #[.agg #[.slice (some ⟨g, 0, none⟩) (j + 1) cap, .int .i64 v]] W fun e w' => e = .returned (.tuple #[.int .i64 0, .int .i64 0]) ∧ Below W.heap.size W w') ∧ (∀ (rs : List SR) (g cap : Nat) (v : Int) W, StsAt W (some ⟨g, 0, none⟩) rs → stgs rs = stgs l → TbE W → Calls Tryz.prog 20 #[.agg #[.slice (some ⟨g, 4, none⟩) (l.length - 1) cap, .int .i64 v]] W fun e w' => e = .returned (.tuple #[.int .i64 0, .int .i64 120]) ∧ Below W.heap.size W w')) := hide (fun h0 => by
    obtain ⟨p1, p2, _, p4⟩ := pc_ok h0
    dsimp only at p1 p2 p4
    rw [stgs_len] at p1 p2
    have hokr : ∀ rs : List SR, stgs rs = stgs l → ∀ r ∈ rs, r.s.ok := fun rs e r hr => by
      have hm : r.s ∈ stgs rs := by unfold stgs; exact List.mem_map_of_mem hr
      rw [e] at hm
      unfold stgs at hm
      obtain ⟨r', hr', e'⟩ := List.mem_map.1 hm
      rw [← e']
      exact hok r' hr'
    have hlr : ∀ rs : List SR, stgs rs = stgs l → rs.length = l.length := fun rs e => by have := congrArg List.length e; rwa [stgs_len, stgs_len] at this
    refine ⟨p1, p2, fun W hW => (copyPattern_any sa sc l wi W hW (fun e => ?_) (by omega) (fun r hr => ?_)).mono (fun e w' ⟨g, cap, rs, q1, q2, q3, q4, q5, q6, q7⟩ => ⟨g, cap, rs, q1, q2, q3, q4, q5, q6, fun r hr hne b off e hb => ?_⟩), fun a cap v W hTe => pcheck_any a cap [] v W (fun hne => absurd rfl hne) hTe (by simp) (by simp), fun rs g cap j v W hW e hTe hj hv => ?_, fun rs g cap v W hW e hTe => ?_⟩
    · obtain ⟨_, _, e', _⟩ := hW (fun e => by rw [e] at p1; simp at p1)
      rw [e] at e'
      cases e'
    · obtain ⟨i, hi, rfl⟩ := List.mem_iff_getElem.1 hr
      have h1 := st_ok (p4 i (by rw [stgs_len]; exact hi))
      rw [stgs_at hi] at h1
      obtain ⟨hne, h200⟩ := ck3_size h1.2.2
      refine ⟨fun e => ?_, by omega⟩
      obtain ⟨_, _, _, _, _, _, _, _, hp⟩ := h.at i hi
      obtain ⟨_, _, e', _⟩ := hp hne
      rw [e] at e'
      cases e'
    · rcases Nat.lt_or_ge b W.heap.size with hlt | hge
      · obtain ⟨r0, hr0, hne0, e0⟩ := q7 r hr hne b off e hlt
        obtain ⟨i, hi, rfl⟩ := List.mem_iff_getElem.1 hr0
        obtain ⟨_, _, _, _, _, _, _, _, hp⟩ := h.at i hi
        obtain ⟨b', off', e', hlt', _⟩ := hp hne0
        rw [e0] at e'
        cases e'
        omega
      · exact hge
    · have hl1 := hlr rs e
      have hlen : (rs.take (j + 1)).length = j + 1 := by rw [List.length_take]; omega
      have C := pcheck_any (some ⟨g, 0, none⟩) cap (rs.take (j + 1)) v W (hW.take _) hTe (fun r hr => hokr rs e r (List.mem_of_mem_take hr)) (by omega)
      rw [stgs_take, e, pc_short (p := ⟨stgs l, wi⟩) h0 (j + 1) (by omega) (by show j + 1 ≤ (stgs l).length; rw [stgs_len]; omega) v hv, hlen] at C
      exact C
    · have hl1 := hlr rs e
      have hlen : (rs.drop 1).length = l.length - 1 := by rw [List.length_drop]; omega
      have C := pcheck_any (some ⟨g, 4, none⟩) cap (rs.drop 1) v W hW.rest hTe (fun r hr => hokr rs e r (List.mem_of_mem_drop hr)) (by omega)
      rw [stgs_drop, e, pc_less (p := ⟨stgs l, wi⟩) h0 v, hlen] at C
      exact C)
  generalize (pcR ⟨stgs l, wi⟩).1 = PA at *
  generalize (pcR ⟨stgs l, wi⟩).2 = PC at *
  obtain ⟨n, hn⟩ : ∃ n, l.length = n := ⟨_, rfl⟩
  clear h hok k0 hP hl
  rw [hn] at HV HCK WK HPO ⊢
  obtain ⟨⟨c0, c1⟩, _, _, HT0, hlt⟩ := unhide HV _ (Kp.refl _ _)
  have HT4L := hide hT
  clear hT HT0
  go_enter Tryz.func8, Tryz.ntmps8
  go_wp2_with fail
  refine (unhide WK).mono ?_
  rintro e w1 ⟨rfl, hb1⟩
  have k1 := Kp.ofBelow hb1
  have HK1 := hide k1
  obtain ⟨⟨d0, d1⟩, -, HS1, HT1, hlt1⟩ := unhide HV _ k1
  have CK := hide (unhide HCK _ (unhide HS1) (unhide HT1).ex)
  clear hb1 k1 WK HCK c0 c1 hlt
  go_wp2_with fail
  refine (unhide CK).mono ?_
  rintro e w2 ⟨rfl, hb2⟩
  have k2 := (unhide HK1).trans (Kp.ofBelow hb2) (by simp)
  have HK2 := hide k2
  obtain ⟨⟨d0', d1'⟩, HW2, HS2, -, hlt2⟩ := unhide HV _ k2
  clear hb2 k2 CK d0 d1 HS1 HT1 hlt1 HK1
  by_cases h0 : PC = 0
  · subst h0
    obtain ⟨p1, p2, p3, p6, p4, p5⟩ := unhide HPO rfl
    have HC3 := hide p6
    have HCP := hide p3
    have HC1 := hide p4
    have HC2 := hide p5
    have CP := hide (p3 w2 (unhide HS2))
    obtain ⟨J, hJn, hJ⟩ := part_nat many n p1
    obtain ⟨V, hVn, hV0⟩ := part_nat within 256 (by omega)
    have hV : (IntKind.u64.wrap within).tmod 256 = (V : Int) := hV0
    clear hV0
    clear p3 p4 p5 p6 HPO HS2 hn
    go_wp2_with fail
    refine (unhide CP).mono ?_
    rintro e w3 ⟨g, cap, rs, rfl, hA3, hsg, hcap, hk3, -, -⟩
    have HA3 := hide hA3
    have HSG := hide hsg
    have HK3 := hide hk3
    have hwn : IntKind.u64.wrap (n : Int) = (n : Int) := by rw [IntKind.wrap_u64]; omega
    have hwJ : IntKind.i64.wrap (J : Int) = (J : Int) := by rw [IntKind.wrap_i64]; omega
    have hwJ1 : IntKind.i64.wrap (1 + (J : Int)) = ((J + 1 : Nat) : Int) := by rw [IntKind.wrap_i64]; omega
    have hwV : IntKind.i64.wrap (V : Int) = (V : Int) := by rw [IntKind.wrap_i64]; omega
    have hwV1 : IntKind.i64.wrap (1 + (V : Int)) = 1 + (V : Int) := by rw [IntKind.wrap_i64]; omega
    have hn0 : ((n : Int) = 0) = False := by simp; omega
    have hJc : J + 1 ≤ cap := by omega
    have hJb : (0 ≤ (J : Int) + 1 ∧ (J : Int) + 1 ≤ (cap : Int)) = True := by simp; omega
    have hn1 : (n = 0) = False := by simp; omega
    have hc0 : (cap = 0) = False := by simp; omega
    clear hA3 hsg hk3 CP
    dsimp only
    go_wp2_with fail
    have bQ := CBox.new w3 #[.slice (some ⟨g, 0, none⟩) n cap, .int .i64 wi] 40
    have kQ : Kp [] w3 (w3.alloc (.cells #[.slice (some ⟨g, 0, none⟩) n cap, .int .i64 wi] 40)).drew := (Kp.alloc _ _).trans (Kp.drew _) (by simp)
    have bQ' := bQ.kp (Kp.drew _) (by simp)
    have a0 : (w3.alloc (.cells #[.slice (some ⟨g, 0, none⟩) n cap, .int .i64 wi] 40)).drew.cell? ⟨w3.heap.size, 0, none⟩ = some (.slice (some ⟨g, 0, none⟩) n cap) := bQ'.cell rfl
    refine wp_region_late (fun W => W.cell? ⟨w3.heap.size, 0, none⟩ = some (.slice (some ⟨g, 0, none⟩) n cap)) 13 (by kernel_rfl) ?_
    show wpAnyL _ _ _ _ _ _ 14 (Array.replicate 14 false) _ _
    refine wpAnyL_take (i := 0) (oi := { dst := some 25, op := Op.fieldAddr 40 (Operand.tmp 9) 0, type := 0, pos := "more.go:20", after := #[], guard := none }) (v := ?_) rfl (by kernel_rfl) (by kernel_rfl) (by kernel_rfl) (by kernel_rfl) (fun _ _ _ h => h) (Or.inl ⟨by rfl, ?_⟩) a0 ?_
    rotate_left 1
    · intro w0 hSw
      (try dsimp only at hSw)
      go_simp
      (try with_reducible rfl)
    try simp only [Act.put, List.setIfInBounds_toArray, List.set_cons_zero, List.set_cons_succ]
    refine wpAnyL_take (i := 1) (oi := { dst := some 26, op := Op.load 38 (Operand.tmp 25), type := 38, pos := "more.go:20", after := #[{ on := 0, ground := Ground.data }], guard := none }) (v := ?_) rfl (by kernel_rfl) (by kernel_rfl) (by kernel_rfl) (by kernel_rfl) (fun _ _ _ h => h) (Or.inl ⟨by rfl, ?_⟩) a0 ?_
    rotate_left 1
    · intro w0 hSw
      (try dsimp only at hSw)
      go_simp
      (try with_reducible rfl)
    try simp only [Act.put, List.setIfInBounds_toArray, List.set_cons_zero, List.set_cons_succ]
    refine wpAnyL_take (i := 2) (oi := { dst := some 27, op := Op.move (Operand.tmp 1), type := 3, pos := "more.go:20", after := #[], guard := none }) (v := ?_) rfl (by kernel_rfl) (by kernel_rfl) (by kernel_rfl) (by kernel_rfl) (fun _ _ _ h => h) (Or.inl ⟨by rfl, ?_⟩) a0 ?_
    rotate_left 1
    · intro w0 hSw
      (try dsimp only at hSw)
      go_simp
      (try with_reducible rfl)
    try simp only [Act.put, List.setIfInBounds_toArray, List.set_cons_zero, List.set_cons_succ]
    refine wpAnyL_take (i := 3) (oi := { dst := some 28, op := Op.convert 3 58 (Operand.tmp 27), type := 58, pos := "more.go:20", after := #[{ on := 2, ground := Ground.data }], guard := none }) (v := ?_) rfl (by kernel_rfl) (by kernel_rfl) (by kernel_rfl) (by kernel_rfl) (fun _ _ _ h => h) (Or.inl ⟨by rfl, ?_⟩) a0 ?_
    rotate_left 1
    · intro w0 hSw
      (try dsimp only at hSw)
      go_simp
      (try with_reducible rfl)
    try simp only [Act.put, List.setIfInBounds_toArray, List.set_cons_zero, List.set_cons_succ]
    refine wpAnyL_take (i := 4) (oi := { dst := some 29, op := Op.fieldAddr 40 (Operand.tmp 9) 0, type := 0, pos := "more.go:20", after := #[], guard := none }) (v := ?_) rfl (by kernel_rfl) (by kernel_rfl) (by kernel_rfl) (by kernel_rfl) (fun _ _ _ h => h) (Or.inl ⟨by rfl, ?_⟩) a0 ?_
    rotate_left 1
    · intro w0 hSw
      (try dsimp only at hSw)
      go_simp
      (try with_reducible rfl)
    try simp only [Act.put, List.setIfInBounds_toArray, List.set_cons_zero, List.set_cons_succ]
    refine wpAnyL_take (i := 5) (oi := { dst := some 30, op := Op.load 38 (Operand.tmp 29), type := 38, pos := "more.go:20", after := #[{ on := 4, ground := Ground.data }], guard := none }) (v := ?_) rfl (by kernel_rfl) (by kernel_rfl) (by kernel_rfl) (by kernel_rfl) (fun _ _ _ h => h) (Or.inl ⟨by rfl, ?_⟩) a0 ?_
    rotate_left 1
    · intro w0 hSw
      (try dsimp only at hSw)
      go_simp
      (try with_reducible rfl)
    try simp only [Act.put, List.setIfInBounds_toArray, List.set_cons_zero, List.set_cons_succ]
    refine wpAnyL_take (i := 6) (oi := { dst := some 31, op := Op.call { callee := Callee.builtin Builtin.len, args := #[Operand.tmp 30], argTypes := #[38] }, type := 3, pos := "more.go:20", after := #[{ on := 5, ground := Ground.data }], guard := none }) (v := ?_) rfl (by kernel_rfl) (by kernel_rfl) (by kernel_rfl) (by kernel_rfl) (fun _ _ _ h => h) (Or.inl ⟨by rfl, ?_⟩) a0 ?_
    rotate_left 1
    · intro w0 hSw
      (try dsimp only at hSw)
      go_simp
      (try with_reducible rfl)
    try simp only [Act.put, List.setIfInBounds_toArray, List.set_cons_zero, List.set_cons_succ]
    refine wpAnyL_take (i := 7) (oi := { dst := some 32, op := Op.convert 3 58 (Operand.tmp 31), type := 58, pos := "more.go:20", after := #[{ on := 6, ground := Ground.data }], guard := none }) (v := ?_) rfl (by kernel_rfl) (by kernel_rfl) (by kernel_rfl) (by kernel_rfl) (fun _ _ _ h => h) (Or.inl ⟨by rfl, ?_⟩) a0 ?_
    rotate_left 1
    · intro w0 hSw
      (try dsimp only at hSw)
      go_simp
      (try with_reducible rfl)
    try simp only [Act.put, List.setIfInBounds_toArray, List.set_cons_zero, List.set_cons_succ]
    refine wpAnyL_take (i := 8) (oi := { dst := some 33, op := Op.binOp BinOp.rem 58 (Operand.tmp 28) (Operand.tmp 32) 58, type := 58, pos := "more.go:20", after := #[{ on := 3, ground := Ground.data }, { on := 7, ground := Ground.data }], guard := none }) (v := ?_) rfl (by kernel_rfl) (by kernel_rfl) (by kernel_rfl) (by kernel_rfl) (fun _ _ _ h => h) (Or.inl ⟨by rfl, ?_⟩) a0 ?_
    rotate_left 1
    · intro w0 hSw
      (try dsimp only at hSw)
      go_simp
      (try with_reducible rfl)
    try simp only [Act.put, List.setIfInBounds_toArray, List.set_cons_zero, List.set_cons_succ]
    refine wpAnyL_take (i := 9) (oi := { dst := some 34, op := Op.convert 58 3 (Operand.tmp 33), type := 3, pos := "more.go:20", after := #[{ on := 8, ground := Ground.data }], guard := none }) (v := ?_) rfl (by kernel_rfl) (by kernel_rfl) (by kernel_rfl) (by kernel_rfl) (fun _ _ _ h => h) (Or.inl ⟨by rfl, ?_⟩) a0 ?_
    rotate_left 1
    · intro w0 hSw
      (try dsimp only at hSw)
      go_simp
      (try with_reducible rfl)
    try simp only [Act.put, List.setIfInBounds_toArray, List.set_cons_zero, List.set_cons_succ]
    refine wpAnyL_take (i := 10) (oi := { dst := some 35, op := Op.binOp BinOp.add 3 (Operand.const (Value.int IntKind.i64 1)) (Operand.tmp 34) 3, type := 3, pos := "more.go:20", after := #[{ on := 9, ground := Ground.data }], guard := none }) (v := ?_) rfl (by kernel_rfl) (by kernel_rfl) (by kernel_rfl) (by kernel_rfl) (fun _ _ _ h => h) (Or.inl ⟨by rfl, ?_⟩) a0 ?_
    rotate_left 1
    · intro w0 hSw
      (try dsimp only at hSw)
      go_simp
      (try with_reducible rfl)
    try simp only [Act.put, List.setIfInBounds_toArray, List.set_cons_zero, List.set_cons_succ]
    refine wpAnyL_take (i := 11) (oi := { dst := some 36, op := Op.slice 38 (Operand.tmp 26) none (some (Operand.tmp 35)) none, type := 38, pos := "more.go:20", after := #[{ on := 1, ground := Ground.data }, { on := 10, ground := Ground.data }], guard := none }) (v := ?_) rfl (by kernel_rfl) (by kernel_rfl) (by kernel_rfl) (by kernel_rfl) (fun _ _ _ h => h) (Or.inl ⟨by rfl, ?_⟩) a0 ?_
    rotate_left 1
    · intro w0 hSw
      (try dsimp only at hSw)
      go_simp
      (try with_reducible rfl)
    try simp only [Act.put, List.setIfInBounds_toArray, List.set_cons_zero, List.set_cons_succ]
    refine wpAnyL_one (i := 12) (o := { dst := some 37, op := Op.fieldAddr 40 (Operand.tmp 9) 0, type := 0, pos := "more.go:20", after := #[{ on := 0, ground := Ground.phase }, { on := 1, ground := Ground.phase }, { on := 2, ground := Ground.phase }, { on := 3, ground := Ground.phase }, { on := 4, ground := Ground.phase }, { on := 5, ground := Ground.phase }, { on := 6, ground := Ground.phase }, { on := 7, ground := Ground.phase }, { on := 8, ground := Ground.phase }, { on := 9, ground := Ground.phase }, { on := 10, ground := Ground.phase }, { on := 11, ground := Ground.phase }], guard := none }) rfl (by kernel_rfl) (fun K hK => ?_)
    go_simp
    refine hK _ _ (Or.inr a0) ?_
    refine wpAnyL_one (i := 13) (o := { dst := none, op := Op.store 38 (Operand.tmp 37) (Operand.tmp 36), type := 0, pos := "more.go:20", after := #[{ on := 12, ground := Ground.data }, { on := 11, ground := Ground.data }, { on := 0, ground := Ground.phase }, { on := 1, ground := Ground.phase }, { on := 2, ground := Ground.phase }, { on := 3, ground := Ground.phase }, { on := 4, ground := Ground.phase }, { on := 5, ground := Ground.phase }, { on := 6, ground := Ground.phase }, { on := 7, ground := Ground.phase }, { on := 8, ground := Ground.phase }, { on := 9, ground := Ground.phase }, { on := 10, ground := Ground.phase }, { on := 11, ground := Ground.phase }], guard := none }) rfl (by kernel_rfl) (fun K hK => ?_)
    go_simp
    refine hK _ _ (Or.inl rfl) ?_
    refine wpAnyL_done (by kernel_rfl) ?_ _
    clear a0
    go_wp2_with fail
    have k4 : Kp [] w3 (w3.alloc (.cells #[.slice (some ⟨g, 0, none⟩) (J + 1) cap, .int .i64 (1 + (V : Int))] 40)).drew := (Kp.alloc _ _).trans (Kp.drew _) (by simp)
    have b4 : CBox w3.heap.size #[.slice (some ⟨g, 0, none⟩) (J + 1) cap, .int .i64 (1 + (V : Int))] 40 (w3.alloc (.cells #[.slice (some ⟨g, 0, none⟩) (J + 1) cap, .int .i64 (1 + (V : Int))] 40)).drew := (CBox.new w3 _ _).kp (Kp.drew _) (by simp)
    have k24 := ((unhide HK2).trans (unhide HK3) (by simp)).trans k4 (by simp)
    obtain ⟨-, -, -, HT4, -⟩ := unhide HV _ k24
    have C4 := hide (unhide HC1 rs g cap J (1 + (V : Int)) _ ((unhide HA3).kp k4) (unhide HSG) (unhide HT4).ex hJn ⟨by omega, by omega⟩)
    have HK24 := hide k24
    have HK4 := hide k4
    have hw3 : w.heap.size < w3.heap.size := by have := (unhide HK3).size; omega
    clear bQ bQ' kQ k4 k24 HT4 HC1 HA3 HSG HK3 HK2 hJ hV hwJ hwJ1 hwn hn0 hJb hJc hn1 hc0 d0' d1' hlt2
    refine (unhide C4).mono ?_
    rintro e w5 ⟨rfl, hb5⟩
    have k5 := (unhide HK24).trans (Kp.ofBelow hb5) (by simp)
    obtain ⟨⟨s0, s1⟩, -, HS5, -, hlt5⟩ := unhide HV _ k5
    have b5 := b4.kp (Kp.ofBelow hb5) (by simp)
    have hw5 : w3.heap.size < w5.heap.size := (Array.getElem?_eq_some_iff.1 b5).1
    have CP2 := hide (unhide HCP w5 (unhide HS5))
    have HK5 := hide k5
    have HB5 := hide b5
    clear hb5 b4 b5 k5 C4 HK24 HK4 HS5 HCP
    go_wp2_with fail
    refine (unhide CP2).mono ?_
    rintro e w6 ⟨g6, cap6, rs6, rfl, hA6, hsg6, hcap6, hk6, hg6, hbl6⟩
    have k6 := (unhide HK5).trans hk6 (by simp)
    have b6 := (unhide HB5).kp hk6 (by simp)
    have m0 := b6.cell (i := 0) (v := .slice (some ⟨g, 0, none⟩) (J + 1) cap) rfl
    have m1 := b6.cell (i := 1) (v := .int .i64 (1 + (V : Int))) rfl
    have m2 := b6.froz 0
    have HFIN : Hid (∀ u, Kp [w3.heap.size] w6 (w6.setCell ⟨w3.heap.size, 0, none⟩ u) ∧ (w6.setCell ⟨w3.heap.size, 0, none⟩ u).cell? ⟨w3.heap.size, 0, none⟩ = some u ∧ (w6.setCell ⟨w3.heap.size, 0, none⟩ u).cell? ⟨w3.heap.size, 1, none⟩ = some (.int .i64 (1 + (V : Int))) ∧ StsAt (w6.setCell ⟨w3.heap.size, 0, none⟩ u) (some ⟨g6, 0, none⟩) rs6 ∧ TbP (w6.setCell ⟨w3.heap.size, 0, none⟩ u) ∧ Kp [] w (w6.setCell ⟨w3.heap.size, 0, none⟩ u)) := hide (fun u => by
      have ks := Kp.set w6 w3.heap.size 0 u
      have bs := b6.set 0 u
      obtain ⟨-, HW6, -, HT6, -⟩ := unhide HV _ k6
      refine ⟨ks, bs.cell rfl, bs.cell rfl, fun hne => ?_, (unhide HT6).kp ks (by have := (unhide HT4L).low; intro x hx; simp at hx; omega), (unhide HW6).trans ks (fun x hx => Or.inr (by simp at hx; omega))⟩
      obtain ⟨b, off, e, hlt, hc⟩ := hA6 hne
      cases e
      refine ⟨g6, 0, rfl, Nat.lt_of_lt_of_le hlt ks.size, fun i hi => ?_⟩
      obtain ⟨e0, e1, e2, e3, e4⟩ := hc i hi
      have hx : g6 ∉ [w3.heap.size] := by simp; omega
      exact ⟨ks.cell e0 hx, ks.cell e1 hx, ks.cell e2 hx, ks.cell e3 hx, e4.kpF ks (fun hne b off e => by
        simp
        rcases Nat.lt_or_ge b w.heap.size with h1 | h1
        · omega
        · have := hbl6 _ (List.getElem_mem hi) hne b off e h1
          omega)⟩)
    have HSG6 := hide hsg6
    clear hA6 hsg6 hk6 hbl6 k6 b6 CP2 HK5 HB5 HV s0 s1
    have hone : (1 : Nat) ≤ n := p1
    have fl := fld0 (some ⟨g6, 0, none⟩) n cap6 wi w6
    by_cases hc6 : cap6 = 1
    · subst hc6
      obtain rfl : n = 1 := by omega
      dsimp only
      go_wp2_with fail
      obtain ⟨ks, n0, n1, -, hT7, hW7⟩ := unhide HFIN (.slice (some ⟨g6, 0, none⟩) 0 0)
      refine (unhide HC3 (some ⟨g6, 0, none⟩) 0 (1 + (V : Int)) _ hT7.ex).mono ?_
      rintro e w8 ⟨rfl, hb8⟩
      have HB8 := hide (hW7.trans (Kp.ofBelow hb8) (by simp))
      clear hb8 hW7 hT7 ks n0 n1
      go_wp2
      go_ret
      exact ⟨rfl, unhide HB8⟩
    · have hc7 : (cap6 = 1) = False := by simp [hc6]
      have hc8 : (1 : Nat) ≤ cap6 := by omega
      dsimp only
      go_wp2_with fail
      obtain ⟨ks, n0, n1, hA7, hT7, hW7⟩ := unhide HFIN (.slice (some ⟨g6, 4, none⟩) (n - 1) (cap6 - 1))
      refine (unhide HC2 rs6 g6 (cap6 - 1) (1 + (V : Int)) _ hA7 (unhide HSG6) hT7.ex).mono ?_
      rintro e w8 ⟨rfl, hb8⟩
      have HB8 := hide (hW7.trans (Kp.ofBelow hb8) (by simp))
      clear hb8 hW7 hT7 ks n0 n1 hA7
      go_wp2
      go_ret
      exact ⟨rfl, unhide HB8⟩
  · have g : (PC = 0) = False := by simp [h0]
    clear HPO
    go_wp2
    go_ret
    exact ⟨rfl, unhide HW2⟩
end Go.Proofs.YthipclehhcfahabGreatDoor
