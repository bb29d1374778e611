/-
  A buffer's calls: Put, Hold, Drop, Count.
  A buffer's calls: Hold, Drop, Count.
-/
import Derived.Test.YthdfaidjdddagaaL06
import Derived.Deep.RegionWith
namespace Go.Proofs.Ythdfaidjdddagaa
open Go.RowKit

/-- May a key stand there? What is told. -/
def MsR (c : Nat → Ent) (s p q : Int) (er : Int) : Prop :=
  (er = 0 ∧ ParOk c s p q) ∨ (er = 160 ∧ q ≠ -1 ∧ ∀ j : Nat, q = (j : Int) → j < 4096 → lvE (c j) = false) ∨ (er = 1 ∧ ∃ j : Nat, q = (j : Int) ∧ j < 4096 ∧ lvE (c j) = true ∧ ¬ ((c j).s ≤ s ∧ (c j).p < p))
theorem folK_iff (s p s' p' : Int) : folK s p s' p' = true ↔ s' ≤ s ∧ p' < p := by simp [folK]
set_option maxHeartbeats 1000000 in
set_option maxRecDepth 100000 in
theorem mayStand_any (b : Nat) (s p q : Int) (c : Nat → Ent) (m : Int) (w : World) (h : Bu b c m w) (hS : Sml c) : Calls Try.prog 25 #[.pointer (some ⟨b, 0, none⟩), .agg #[.int .i64 s, .int .i64 p, .int .i64 q]] w fun e w' => ∃ er, e = .returned (.int .i64 er) ∧ Hid (MsR c s p q er) ∧ Kp [] w w' := by
  have k0 := Kp.alloc w (.cells #[.int .i64 s, .int .i64 p, .int .i64 q] 54)
  have hb1 := h.kp k0 (by simp)
  have x1 := CBox.new w #[.int .i64 s, .int .i64 p, .int .i64 q] 54
  have y1 := x1.cell (i := 0) (v := .int .i64 s) rfl
  have y2 := x1.cell (i := 1) (v := .int .i64 p) rfl
  have y3 := x1.cell (i := 2) (v := .int .i64 q) rfl
  have HU := hide hb1
  have HX := hide x1
  have HK := hide k0
  clear h k0 hb1 x1
  have IF := hide (isFirst_any s p q (w.alloc (.cells #[.int .i64 s, .int .i64 p, .int .i64 q] 54)))
  go_enter Try.func25, Try.ntmps25
  by_cases hq : q = -1
  · rw [show decide (q = -1) = true from by simp [hq]] at IF
    have HQ := hide hq
    clear hq
    go_wp2_with fail
    refine (unhide IF).mono ?_
    rintro r w1 ⟨rfl, HK1⟩
    have HK1 := hide HK1
    clear IF
    go_wp2_with fail
    go_ret
    exact ⟨_, rfl, hide (Or.inl ⟨rfl, Or.inl (unhide HQ)⟩), (unhide HK).trans (unhide HK1) (by simp)⟩
  · rw [show decide (q = -1) = false from by simp [hq]] at IF
    go_wp2_with fail
    refine (unhide IF).mono ?_
    rintro r w1 ⟨rfl, HK1⟩
    have HKA : Hid (Kp [] w w1) := hide ((unhide HK).trans HK1 (by simp))
    have b1 := (unhide HU).kp HK1 (by simp)
    have x1 := (unhide HX).kp HK1 (by simp)
    clear IF y1 y2 y3 HK HK1 HU HX
    have y3 := x1.cell (i := 2) (v := .int .i64 q) rfl
    have HA : Hid (∀ W, Kp [] w1 W → Calls Try.prog 30 #[.pointer (some ⟨b, 0, none⟩), .int .i64 q] W fun e w' => e = .returned (.bool (hasE c q)) ∧ Kp [] W w') := hide (fun W hW => has_any b q c m W (b1.kp hW (by simp)) hS)
    have HB1 := hide b1
    have HX1 := hide x1
    clear b1 x1
    generalize hh : hasE c q = H at *
    have HH := hide hh
    clear hh
    go_upto_region 3 with fail
    go_cut [13] (fun v wc => v = .bool (!H) ∧ Hid (Kp [] w1 wc))
    case first =>
      go_region_with (go_at_call 30; refine (unhide HA _ (Kp.drew _)).mono ?_; rintro e w' ⟨rfl, hk'⟩; have hk' := hide hk')
      all_goals
        go_wp2_with fail
        go_meet
        exact ⟨rfl, hide ((Kp.drew _).trans (unhide hk') (by simp))⟩
    case rest =>
      obtain ⟨rfl, HK2⟩ := hcut
      clear HA y3
      generalize wc = w2 at *
      have b2 := (unhide HB1).kp (unhide HK2) (by simp)
      have x2 := (unhide HX1).kp (unhide HK2) (by simp)
      have HKB : Hid (Kp [] w w2) := hide ((unhide HKA).trans (unhide HK2) (by simp))
      clear HB1 HX1 HKA HK2
      cases H with
      | false =>
        clear b2 x2
        go_wp2_with fail
        go_ret
        exact ⟨_, rfl, hide (Or.inr (Or.inl ⟨rfl, hq, fun j hj hl => by have := unhide HH; rw [hj, hasE_nat c j hl] at this; exact this⟩)), unhide HKB⟩
      | true =>
        obtain ⟨j, hj, hj1, hj2⟩ := hasE_some (unhide HH)
        subst hj
        have hjj : (j : Int) < 4096 := by omega
        have y1 := x2.cell (i := 0) (v := .int .i64 s) rfl
        have y2 := x2.cell (i := 1) (v := .int .i64 p) rfl
        have y3 := x2.cell (i := 2) (v := .int .i64 (j : Int)) rfl
        have z1 := b2.s j hj1
        have z2 := b2.p j hj1
        have z3 := b2.q j hj1
        have FO : Hid (∀ W, Calls Try.prog 36 #[.agg #[.int .i64 s, .int .i64 p, .int .i64 (j : Int)], .agg #[.int .i64 (c j).s, .int .i64 (c j).p, .int .i64 (c j).q]] W fun e w' => e = .returned (.bool (folK s p (c j).s (c j).p)) ∧ Kp [] W w') := hide (fun W => follows_any s p (j : Int) (c j).s (c j).p (c j).q W)
        have HF := hide (folK_iff s p (c j).s (c j).p)
        generalize folK s p (c j).s (c j).p = F at *
        clear b2 x2 HH
        go_upto_region 5 with fail
        go_cut [25] (fun v wc => v = .bool (!F) ∧ Hid (Kp [] w2 wc))
        case first =>
          go_region_with (go_at_call 36; refine (unhide FO _).mono ?_; rintro e w' ⟨rfl, hk'⟩; have hk' := hide hk')
          all_goals
            go_wp2_with fail
            go_meet
            exact ⟨rfl, hide ((Kp.drew _).trans (unhide hk') (by simp))⟩
        case rest =>
          obtain ⟨rfl, HK3⟩ := hcut
          clear FO y1 y2 y3 z1 z2 z3
          generalize wc = w3 at *
          cases F with
          | false =>
            go_wp2_with fail
            go_ret
            exact ⟨_, rfl, hide (Or.inr (Or.inr ⟨rfl, j, rfl, hj1, hj2, fun h => by have := (unhide HF).2 h; cases this⟩)), (unhide HKB).trans (unhide HK3) (by simp)⟩
          | true =>
            go_wp2_with fail
            go_ret
            exact ⟨_, rfl, hide (Or.inl ⟨rfl, Or.inr ⟨j, rfl, hj1, hj2, by have := unhide HF; simpa using this⟩⟩), (unhide HKB).trans (unhide HK3) (by simp)⟩
set_option maxHeartbeats 1000000 in
set_option maxRecDepth 100000 in
theorem put_any (b : Nat) (s p q : Int) (c : Nat → Ent) (m : Nat) (B : Int) (w : World) (h : Bu b c (m : Int) w) (hI : BIv c (-1) m B) (hB : B ≤ 2305843009213693952) : Calls Try.prog 10 #[.pointer (some ⟨b, 0, none⟩), .int .i64 s, .int .i64 p, .int .i64 q] w fun e w' => ∃ (id er : Int) (d : Nat → Ent) (n : Nat), e = .returned (.tuple #[.int .i64 id, .int .i64 er]) ∧ Hid (PutR c m s p q id er d n) ∧ Bu b d (n : Int) w' ∧ Kp [b] w w' := by
  have hS := hI.sml hB
  have hml := hI.mle
  have hmany : m = cnt (fun i => lvE (c i)) 4096 := by rw [hI.many]; exact cnt_congr fun i _ => prE_neg c i
  have k0 : Kp [] w (w.alloc (.cells #[.int .i64 s, .int .i64 p, .int .i64 q] 54)) := Kp.alloc w _
  have hb1 := h.kp k0 (by simp)
  have x1 := CBox.new w #[.int .i64 s, .int .i64 p, .int .i64 q] 54
  have y1 := x1.cell (i := 0) (v := .int .i64 s) rfl
  have y2 := x1.cell (i := 1) (v := .int .i64 p) rfl
  have y3 := x1.cell (i := 2) (v := .int .i64 q) rfl
  have HU := hide hb1
  have HX := hide x1
  have HK := hide k0
  have HI := hide hI
  have HM := hide hmany
  clear h k0 hb1 x1 hI hmany
  have IR := hide (inRange_any s p q (w.alloc (.cells #[.int .i64 s, .int .i64 p, .int .i64 q] 54)))
  have HO := hide (okK_iff s p)
  generalize okK s p = O at *
  go_enter Try.func10, Try.ntmps10
  go_wp2_with fail
  refine (unhide IR).mono ?_
  rintro r w1 ⟨rfl, HK1⟩
  have HKA : Hid (Kp [] w w1) := hide ((unhide HK).trans HK1 (by simp))
  have b1 := (unhide HU).kp HK1 (by simp)
  have x1 := (unhide HX).kp HK1 (by simp)
  clear IR y1 y2 y3 HK HK1 HU HX
  cases O with
  | false =>
    have HB1 := hide b1
    clear b1 x1
    go_wp2_with fail
    go_ret2
    exact ⟨_, _, _, _, rfl, hide (PutR.range (fun h => by have := (unhide HO).2 h; cases this)), (unhide HB1), (unhide HKA).mono (by simp)⟩
  | true =>
    have HR : Hid (0 ≤ s ∧ s < 8 ∧ 0 ≤ p ∧ p ≤ 1073741824) := hide (by have := unhide HO; simpa using this)
    have y1 := x1.cell (i := 0) (v := .int .i64 s) rfl
    have y2 := x1.cell (i := 1) (v := .int .i64 p) rfl
    have y3 := x1.cell (i := 2) (v := .int .i64 q) rfl
    have MS := hide (mayStand_any b s p q c m w1 b1 hS)
    have HB1 := hide b1
    have HX1 := hide x1
    clear b1 x1 HO
    go_wp2_with fail
    refine (unhide MS).mono ?_
    rintro r w2 ⟨er, rfl, HMS, HK2⟩
    have HKB : Hid (Kp [] w w2) := hide ((unhide HKA).trans HK2 (by simp))
    have b2 := (unhide HB1).kp HK2 (by simp)
    have x2 := (unhide HX1).kp HK2 (by simp)
    clear MS y1 y2 y3 HKA HK2 HB1 HX1
    by_cases he : er = 0
    · subst he
      have HP : Hid (ParOk c s p q) := hide (by
        rcases unhide HMS with ⟨_, h⟩ | ⟨h, _⟩ | ⟨h, _⟩
        · exact h
        · exact absurd h (by decide)
        · exact absurd h (by decide))
      clear HMS
      have y1 := x2.cell (i := 0) (v := .int .i64 s) rfl
      have y2 := x2.cell (i := 1) (v := .int .i64 p) rfl
      have y3 := x2.cell (i := 2) (v := .int .i64 q) rfl
      have FD : Hid (∀ W, Kp [] w2 W → Calls Try.prog 26 #[.pointer (some ⟨b, 0, none⟩), .agg #[.int .i64 s, .int .i64 p, .int .i64 q]] W fun e w' => ∃ id ok, e = .returned (.tuple #[.int .i64 id, .bool ok]) ∧ Hid (FdR c s p q id ok) ∧ Kp [] W w') := hide (fun W hW => find_any b s p q c m W (b2.kp hW (by simp)) hS (unhide HM))
      have HB2 := hide b2
      have HX2 := hide x2
      clear b2 x2
      go_upto_region 7 with fail
      go_cut [12, 13] (fun v u wc => ∃ id ok, v = .int .i64 id ∧ u = .bool ok ∧ Hid (FdR c s p q id ok) ∧ Hid (Kp [] w2 wc))
      case first =>
        go_region_with (go_at_call 26; refine (unhide FD _ (Kp.drew _)).mono ?_; rintro e w' ⟨id, ok, rfl, hf', hk'⟩; have hk' := hide hk')
        all_goals
          go_wp2_with fail
          go_meet
          exact ⟨id, ok, rfl, rfl, hf', hide ((Kp.drew _).trans (unhide hk') (by simp))⟩
      case rest =>
        obtain ⟨id, ok, rfl, rfl, HF, HK3⟩ := hcut
        clear FD y1 y2 y3
        generalize wc = w3 at *
        have HKC : Hid (Kp [] w w3) := hide ((unhide HKB).trans (unhide HK3) (by simp))
        have b3 := (unhide HB2).kp (unhide HK3) (by simp)
        have x3 := (unhide HX2).kp (unhide HK3) (by simp)
        clear HB2 HX2 HKB HK3
        cases ok with
        | true =>
          obtain ⟨i, hi, hi1, hi2, hi3⟩ : ∃ i : Nat, id = (i : Int) ∧ i < 4096 ∧ lvE (c i) = true ∧ keyE (c i) s p q = true := by
            rcases unhide HF with ⟨_, h⟩ | ⟨h, _⟩
            · exact h
            · cases h
          subst hi
          have hii : (i : Int) < 4096 := by omega
          obtain ⟨g1, g2, g3, g4⟩ := hS i hi1
          have HO := hide (hold_any b i hi1 c m w3 b3 g1 (by omega))
          have HI3 := hide hi3
          clear b3 x3 hi3 g1 g2 g3 g4 HF
          go_wp2_with fail
          refine (unhide HO).mono ?_
          rintro r w4 ⟨rfl, HB4, HK4⟩
          have HB4 := hide HB4
          have HK4 := hide HK4
          clear HO
          go_wp2_with fail
          go_ret2
          exact ⟨_, _, _, _, rfl, hide (PutR.again i (unhide HR) (unhide HP) hi1 hi2 ((keyE_iff _ _ _ _).1 (unhide HI3))), unhide HB4, ((unhide HKC).mono (by simp)).trans (unhide HK4) (by simp)⟩
        | false =>
          have HNO : Hid (∀ j, j < 4096 → lvE (c j) = true → ¬ ((c j).s = s ∧ (c j).p = p ∧ (c j).q = q)) := hide (fun j hj hl hk => by
            rcases unhide HF with ⟨h, _⟩ | ⟨_, _, h⟩
            · cases h
            · have := h j hj hl
              rw [(keyE_iff _ _ _ _).2 hk] at this
              cases this)
          have c20 := b3.m
          have HB3 := hide b3
          clear b3 HF
          by_cases hf : m = 4096
          · have hfi : (m : Int) = 4096 := by omega
            have HF2 := hide hf
            clear hf x3
            go_wp2_with fail
            go_ret2
            exact ⟨_, _, _, _, rfl, hide (PutR.full (unhide HR) (unhide HP) (unhide HNO) (unhide HF2)), unhide HB3, (unhide HKC).mono (by simp)⟩
          · have hfi : ¬ (m : Int) = 4096 := by omega
            have hlt : m < 4096 := by omega
            obtain ⟨i, hi1, hi2, hi3⟩ := cnt_first (f := fun i => lvE (c i)) (n := 4096) (by rw [← unhide HM]; exact hlt)
            have y1 := x3.cell (i := 0) (v := .int .i64 s) rfl
            have y2 := x3.cell (i := 1) (v := .int .i64 p) rfl
            have y3 := x3.cell (i := 2) (v := .int .i64 q) rfl
            have AD : Hid (∀ W, Kp [] w3 W → Calls Try.prog 28 #[.pointer (some ⟨b, 0, none⟩), .agg #[.int .i64 s, .int .i64 p, .int .i64 q]] W fun e w' => e = .returned (.int .i64 (i : Int)) ∧ Bu b (adE c i s p q) ((m : Int) + 1) w' ∧ Kp [b] W w') := hide (fun W hW => by
              have hbW := (unhide HB3).kp hW (by simp)
              rcases unhide HP with rfl | ⟨j, rfl, hj, hv, _⟩
              · exact addFirst_any b i s p c m W hbW hS (by omega) hi1 hi2 hi3
              · exact addBehind_any b i j s p c m W hbW hS (by omega) hi1 hi2 hi3 hj (fun e => by subst e; rw [hv] at hi2; cases hi2))
            have HI2 := hide hi2
            have HI3 := hide hi3
            clear x3 hi2 hi3
            go_upto_region 13 with fail
            go_cut [8, 9] (fun v u wc => v = .int .i64 (i : Int) ∧ u = .int .i64 0 ∧ Hid (Bu b (adE c i s p q) ((m : Int) + 1) wc) ∧ Hid (Kp [b] w3 wc))
            case first =>
              go_region_with (go_at_call 28; refine (unhide AD _ (Kp.drew _)).mono ?_; rintro e w' ⟨rfl, hb', hk'⟩; have hk' := hide hk'; have hb' := hide hb')
              all_goals
                go_wp2_with fail
                go_meet
                exact ⟨rfl, rfl, hb', hide (((Kp.drew _).mono (by simp)).trans (unhide hk') (by simp))⟩
            case rest =>
              obtain ⟨rfl, rfl, HB4, HK4⟩ := hcut
              clear AD y1 y2 y3 HB3 c20
              generalize wc = w4 at *
              go_wp2_with fail
              go_ret2
              exact ⟨_, _, _, _, rfl, hide (PutR.more i (unhide HR) (unhide HP) (unhide HNO) hlt hi1 (unhide HI2) (unhide HI3)), unhide HB4, ((unhide HKC).mono (by simp)).trans (unhide HK4) (by simp)⟩
    · have HB2 := hide b2
      clear b2 x2
      go_wp2_with fail
      go_ret2
      refine ⟨_, _, _, _, rfl, hide ?_, unhide HB2, (unhide HKB).mono (by simp)⟩
      rcases unhide HMS with ⟨h, _⟩ | ⟨h, h1, h2⟩ | ⟨h, j, h1, h2, h3, h4⟩
      · exact absurd h he
      · rw [h]; exact PutR.ref (unhide HR) h1 h2
      · rw [h]; exact PutR.bad j (unhide HR) h1 h2 h3 h4
end Go.Proofs.Ythdfaidjdddagaa
namespace Go.Proofs.Ythdfaidjdddagaa
open Go.RowKit

set_option maxHeartbeats 1000000 in
set_option maxRecDepth 100000 in
theorem buHold_not (b : Nat) (id : Int) (c : Nat → Ent) (m : Int) (w : World) (h : Bu b c m w) (hS : Sml c) (hn : hasE c id = false) : Calls Try.prog 12 #[.pointer (some ⟨b, 0, none⟩), .int .i64 id] w fun e w' => e = .returned (.int .i64 160) ∧ Kp [] w w' := by
  have HA := hide (has_any b id c m w h hS)
  rw [hn] at HA
  clear h hn
  go_enter Try.func12, Try.ntmps12
  go_wp2_with fail
  refine (unhide HA).mono ?_
  rintro r w1 ⟨rfl, HK1⟩
  have HK1 := hide HK1
  clear HA
  go_wp2_with fail
  go_ret
  exact ⟨rfl, unhide HK1⟩
set_option maxHeartbeats 1000000 in
set_option maxRecDepth 100000 in
theorem buHold_ok (b i : Nat) (hi : i < 4096) (c : Nat → Ent) (m : Int) (w : World) (h : Bu b c m w) (hS : Sml c) (hv : lvE (c i) = true) : Calls Try.prog 12 #[.pointer (some ⟨b, 0, none⟩), .int .i64 (i : Int)] w fun e w' => e = .returned (.int .i64 0) ∧ Bu b (hoE c i) m w' ∧ Kp [b] w w' := by
  have HA := hide (has_any b (i : Int) c m w h hS)
  rw [hasE_nat c i hi, hv] at HA
  have hii : (i : Int) < 4096 := by omega
  obtain ⟨g1, g2, g3, g4⟩ := hS i hi
  have HU := hide h
  clear h hv
  go_enter Try.func12, Try.ntmps12
  go_wp2_with fail
  refine (unhide HA).mono ?_
  rintro r w1 ⟨rfl, HK1⟩
  have HO := hide (hold_any b i hi c m w1 ((unhide HU).kp HK1 (by simp)) g1 (by omega))
  have HK1 := hide HK1
  clear HA g1 g2 g3 g4
  go_wp2_with fail
  refine (unhide HO).mono ?_
  rintro r w2 ⟨rfl, HB2, HK2⟩
  have HB2 := hide HB2
  have HK2 := hide HK2
  clear HO
  go_wp2_with fail
  go_ret
  exact ⟨rfl, unhide HB2, ((unhide HK1).mono (by simp)).trans (unhide HK2) (by simp)⟩
set_option maxHeartbeats 1000000 in
set_option maxRecDepth 100000 in
theorem buCount_not (b : Nat) (id : Int) (c : Nat → Ent) (m : Int) (w : World) (h : Bu b c m w) (hS : Sml c) (hn : hasE c id = false) : Calls Try.prog 18 #[.pointer (some ⟨b, 0, none⟩), .int .i64 id] w fun e w' => e = .returned (.tuple #[.int .i64 0, .int .i64 160]) ∧ Kp [] w w' := by
  have HA := hide (has_any b id c m w h hS)
  rw [hn] at HA
  clear h hn
  go_enter Try.func18, Try.ntmps18
  go_wp2_with fail
  refine (unhide HA).mono ?_
  rintro r w1 ⟨rfl, HK1⟩
  have HK1 := hide HK1
  clear HA
  go_wp2_with fail
  go_ret2
  exact ⟨rfl, unhide HK1⟩
set_option maxHeartbeats 1000000 in
set_option maxRecDepth 100000 in
theorem buCount_ok (b i : Nat) (hi : i < 4096) (c : Nat → Ent) (m : Int) (w : World) (h : Bu b c m w) (hS : Sml c) (hv : lvE (c i) = true) : Calls Try.prog 18 #[.pointer (some ⟨b, 0, none⟩), .int .i64 (i : Int)] w fun e w' => e = .returned (.tuple #[.int .i64 ((c i).h + (c i).k), .int .i64 0]) ∧ Kp [] w w' := by
  have HA := hide (has_any b (i : Int) c m w h hS)
  rw [hasE_nat c i hi, hv] at HA
  have hii : (i : Int) < 4096 := by omega
  obtain ⟨g1, g2, g3, g4⟩ := hS i hi
  have HU := hide h
  clear h hv
  go_enter Try.func18, Try.ntmps18
  go_wp2_with fail
  refine (unhide HA).mono ?_
  rintro r w1 ⟨rfl, HK1⟩
  have HO := hide (sum_any b i hi c m w1 ((unhide HU).kp HK1 (by simp)) (by omega) (by omega))
  have HK1 := hide HK1
  clear HA g1 g2 g3 g4
  go_wp2_with fail
  refine (unhide HO).mono ?_
  rintro r w2 ⟨rfl, HK2⟩
  have HK2 := hide HK2
  clear HO
  go_wp2_with fail
  go_ret2
  exact ⟨rfl, (unhide HK1).trans (unhide HK2) (by simp)⟩
set_option maxHeartbeats 1000000 in
set_option maxRecDepth 100000 in
theorem buDrop_not (b : Nat) (id : Int) (c : Nat → Ent) (m : Int) (w : World) (h : Bu b c m w) (hS : Sml c) (hn : hasE c id = false) : Calls Try.prog 14 #[.pointer (some ⟨b, 0, none⟩), .int .i64 id] w fun e w' => e = .returned (.tuple #[.int .i64 0, .int .i64 160]) ∧ Kp [] w w' := by
  have HA := hide (has_any b id c m w h hS)
  rw [hn] at HA
  clear h hn
  go_enter Try.func14, Try.ntmps14
  go_wp2_with fail
  refine (unhide HA).mono ?_
  rintro r w1 ⟨rfl, HK1⟩
  have HK1 := hide HK1
  clear HA
  go_wp2_with fail
  go_ret2
  exact ⟨rfl, unhide HK1⟩
set_option maxHeartbeats 1000000 in
set_option maxRecDepth 100000 in
theorem buDrop_held (b i : Nat) (hi : i < 4096) (c : Nat → Ent) (m : Int) (w : World) (h : Bu b c m w) (hS : Sml c) (hv : lvE (c i) = true) (hz : (c i).h = 0) : Calls Try.prog 14 #[.pointer (some ⟨b, 0, none⟩), .int .i64 (i : Int)] w fun e w' => e = .returned (.tuple #[.int .i64 0, .int .i64 1]) ∧ Kp [] w w' := by
  have HA := hide (has_any b (i : Int) c m w h hS)
  rw [hasE_nat c i hi, hv] at HA
  have hii : (i : Int) < 4096 := by omega
  have HU := hide h
  have HZ := hide hz
  clear h hv hz
  go_enter Try.func14, Try.ntmps14
  go_wp2_with fail
  refine (unhide HA).mono ?_
  rintro r w1 ⟨rfl, HK1⟩
  have HO := hide (letGo_not b i hi c m w1 ((unhide HU).kp HK1 (by simp)) (unhide HZ))
  have HK1 := hide HK1
  clear HA
  go_wp2_with fail
  refine (unhide HO).mono ?_
  rintro r w2 ⟨rfl, rfl⟩
  clear HO
  go_wp2_with fail
  go_ret2
  exact ⟨rfl, unhide HK1⟩
set_option maxHeartbeats 1000000 in
set_option maxRecDepth 100000 in
theorem buDrop_ok (b i : Nat) (hi : i < 4096) (c : Nat → Ent) (m : Nat) (B : Int) (w : World) (h : Bu b c (m : Int) w) (hI : BIv c (-1) m B) (hB0 : 0 ≤ B) (hB : B ≤ 2305843009213693952) (hz : 0 < (c i).h) : Calls Try.prog 14 #[.pointer (some ⟨b, 0, none⟩), .int .i64 (i : Int)] w fun e w' => ∃ (n : Nat) (d : Nat → Ent), e = .returned (.tuple #[.int .i64 (n : Int), .int .i64 0]) ∧ n ≤ m ∧ Hid (Swp (lgE c i) (i : Int) n d) ∧ Bu b d ((m - n : Nat) : Int) w' ∧ Hid (BIv d (-1) (m - n) B) ∧ Kp [b] w w' := by
  have hS := hI.sml hB
  obtain ⟨g1, g2, g3, g4⟩ := hS i hi
  have HA := hide (has_any b (i : Int) c m w h hS)
  rw [hasE_nat c i hi, (lvE_iff _).2 (by omega)] at HA
  have hii : (i : Int) < 4096 := by omega
  have HU := hide h
  have HZ := hide hz
  have HI := hide (hI.letGo hi hz)
  have HG := hide g2
  clear h hz hI g1 g2 g3 g4
  go_enter Try.func14, Try.ntmps14
  go_wp2_with fail
  refine (unhide HA).mono ?_
  rintro r w1 ⟨rfl, HK1⟩
  have HO := hide (letGo_ok b i hi c m w1 ((unhide HU).kp HK1 (by simp)) (unhide HZ) (by have := unhide HG; omega))
  have HK1 := hide HK1
  clear HA
  go_wp2_with fail
  refine (unhide HO).mono ?_
  rintro r w2 ⟨rfl, HB2, HK2⟩
  have SW := hide (sweep_any b i (lgE c i) m B w2 HB2 (unhide HI) hB0 hB)
  have HKB : Hid (Kp [b] w w2) := hide (((unhide HK1).mono (by simp)).trans HK2 (by simp))
  clear HO HB2 HK2 HK1
  go_wp2_with fail
  refine (unhide SW).mono ?_
  rintro r w3 ⟨n, d, rfl, hn, hs, HB3, HI3, HK3⟩
  have HB3 := hide HB3
  have HK3 := hide HK3
  clear SW
  go_wp2_with fail
  go_ret2
  exact ⟨n, d, rfl, hn, hs, unhide HB3, HI3, (unhide HKB).trans (unhide HK3) (by simp)⟩
end Go.Proofs.Ythdfaidjdddagaa
