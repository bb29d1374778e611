/-
  A buffer: made; how many; the entry of a key; the least free number.
-/
import Derived.Test.YthdfaidjdddagaaL03
import Derived.Deep.DeepCutAuto
namespace Go.Proofs.Ythdfaidjdddagaa
open Go.RowKit

theorem app_rep (v : Value) (a b : Nat) : (List.replicate a v).append (List.replicate b v) = List.replicate (a + b) v := List.replicate_append_replicate
theorem leaf40 : [Value.int .i64 0, .int .i64 0, .int .i64 0, .int .i64 0, .int .i64 0, .int .i64 0, .int .i64 0, .int .i64 0, .int .i64 0, .int .i64 0, .int .i64 0, .int .i64 0, .int .i64 0, .int .i64 0, .int .i64 0, .int .i64 0, .int .i64 0, .int .i64 0, .int .i64 0, .int .i64 0, .int .i64 0, .int .i64 0, .int .i64 0, .int .i64 0, .int .i64 0, .int .i64 0, .int .i64 0, .int .i64 0, .int .i64 0, .int .i64 0, .int .i64 0, .int .i64 0, .int .i64 0, .int .i64 0, .int .i64 0, .int .i64 0, .int .i64 0, .int .i64 0, .int .i64 0, .int .i64 0] = List.replicate 40 (Value.int .i64 0) := rfl
theorem leaf41 : Value.int .i64 0 :: List.replicate 40 (Value.int .i64 0) = List.replicate 41 (Value.int .i64 0) := rfl
set_option maxRecDepth 100000 in
set_option maxHeartbeats 4000000 in
theorem zeroB : Try.t63.zero = some (.agg (Array.replicate 20481 (.int .i64 0))) := by
  unfold Try.t63
  dsimp only
  simp only [leaf40, leaf41, app_rep, Nat.reduceAdd]
  rfl
theorem Bu.new (w : World) (Z : Array Value) (hZ : Z = Array.replicate 20481 (.int .i64 0)) : Bu w.heap.size (fun _ => zeE) 0 (w.alloc (.cells Z 63)) := by
  subst hZ
  refine ⟨_, heap_alloc_new w _, by simp, by rw [Array.getElem?_replicate, if_pos (by decide)], fun i hi => ?_⟩
  refine ⟨?_, ?_, ?_, ?_, ?_⟩ <;> (rw [Array.getElem?_replicate, if_pos (by omega)]; rfl)
set_option maxRecDepth 100000 in
theorem buNew_any (w : World) : Calls Try.prog 8 #[] w fun e w' => e = .returned (.pointer (some ⟨w.heap.size, 0, none⟩)) ∧ Bu w.heap.size (fun _ => zeE) 0 w' ∧ Kp [] w w' := by
  obtain ⟨Z, hZ⟩ : ∃ Z : Array Value, Z = Array.replicate 20481 (.int .i64 0) := ⟨_, rfl⟩
  have hb : (zeroValue 63).run Try.prog w = .ok (.agg Z) w := by
    rw [hZ]
    unfold zeroValue
    simp only [Sem.run_bind, Try.typeInfo63, Result.andThen_ok, zeroB]
    rfl
  have HN := hide (Bu.new w Z hZ)
  clear hZ
  go_enter Try.func8, Try.ntmps8
  go_wp2
  go_ret
  exact ⟨rfl, unhide HN, Kp.alloc w _⟩
set_option maxRecDepth 100000 in
theorem buLen_any (b : Nat) (c : Nat → Ent) (m : Int) (w : World) (h : Bu b c m w) : Calls Try.prog 21 #[.pointer (some ⟨b, 0, none⟩)] w fun e w' => e = .returned (.int .i64 m) ∧ w' = w := by
  have h1 := h.m
  clear h
  go_enter Try.func21, Try.ntmps21
  go_wp2
  go_ret
  exact ⟨rfl, rfl⟩
/-- The key of an entry is this one. -/
def keyE (e : Ent) (s p q : Int) : Bool := e.s == s && (e.p == p && e.q == q)
theorem keyE_iff (e : Ent) (s p q : Int) : keyE e s p q = true ↔ e.s = s ∧ e.p = p ∧ e.q = q := by simp [keyE]
/-- What a search for a key tells: the entry that has it, or none. -/
def FdR (c : Nat → Ent) (s p q : Int) (id : Int) (ok : Bool) : Prop :=
  (ok = true ∧ ∃ i : Nat, id = (i : Int) ∧ i < 4096 ∧ lvE (c i) = true ∧ keyE (c i) s p q = true) ∨ (ok = false ∧ id = 0 ∧ ∀ i, i < 4096 → lvE (c i) = true → keyE (c i) s p q = false)
set_option maxHeartbeats 1000000 in
set_option maxRecDepth 100000 in
theorem find_any (b : Nat) (s p q : Int) (c : Nat → Ent) (m : Nat) (w : World) (h : Bu b c (m : Int) w) (hS : Sml c) (hm : m = cnt (fun i => lvE (c i)) 4096) : Calls Try.prog 26 #[.pointer (some ⟨b, 0, none⟩), .agg #[.int .i64 s, .int .i64 p, .int .i64 q]] w fun e w' => ∃ id ok, e = .returned (.tuple #[.int .i64 id, .bool ok]) ∧ Hid (FdR c s p q id ok) ∧ Kp [] w w' := by
  have HM := hide hm
  have hml : m ≤ 4096 := by rw [hm]; exact cnt_le _ _
  have k0 := Kp.alloc w (.cells #[.int .i64 s, .int .i64 p, .int .i64 q] 54)
  have hb1 := h.kp k0 (by simp)
  have HX : Hid (CBox w.heap.size #[.int .i64 s, .int .i64 p, .int .i64 q] 54 (w.alloc (.cells #[.int .i64 s, .int .i64 p, .int .i64 q] 54))) := hide (CBox.new w _ _)
  have HU := hide hb1
  have c20 := hb1.m
  have HK := hide k0
  clear h hm hb1 k0
  go_enter Try.func26, Try.ntmps26
  go_wp2_with fail
  go_quiet (fail)
  go_wp2_with fail
  go_loopw [6, 7] (fun i l wr => ∃ k n : Nat, k ≤ 4096 ∧ n ≤ 4096 ∧ i = .int .i64 (k : Int) ∧ l = .int .i64 (n : Int) ∧ Hid (n + cnt (fun i => lvE (c i)) k = m) ∧ Hid (∀ j, j < k → lvE (c j) = true → keyE (c j) s p q = false) ∧ Hid (Kp [] w wr) ∧ Hid (Bu b c (m : Int) wr) ∧ Hid (CBox w.heap.size #[.int .i64 s, .int .i64 p, .int .i64 q] 54 wr)) (fun i _ _ => 4096 - (intOf i).toNat)
  case atStart => exact ⟨0, m, by omega, hml, rfl, rfl, hide (by unfold cnt; omega), hide (fun j hj => by omega), hide ((unhide HK).trans (Kp.drewQ _ _) (by simp)), hide ((unhide HU).kp (Kp.drewQ _ _) (by simp)), hide ((unhide HX).kp (Kp.drewQ _ _) (by simp))⟩
  case round =>
    clear HK HU HX c20
    obtain ⟨k, n, hk, hn, rfl, rfl, H1, H2, H3, H4, H5⟩ := hrel
    by_cases h0 : 0 < n
    · have hn0 : (0 : Int) < (n : Int) := by omega
      have hk1 : k < 4096 := by
        rcases Nat.lt_or_ge k 4096 with g | g
        · exact g
        · have : k = 4096 := by omega
          have e1 := unhide H1
          have e2 := unhide HM
          subst this
          omega
      have HA := hide (has_any b (k : Int) c m wr (unhide H4) hS)
      rw [hasE_nat c k hk1] at HA
      go_wp2_with fail
      refine (unhide HA).mono ?_
      rintro r w1 ⟨rfl, HK1⟩
      have HK1 := hide HK1
      have b1 := (unhide H4).kp (unhide HK1) (by simp)
      have x1 := (unhide H5).kp (unhide HK1) (by simp)
      have H3' : Hid (Kp [] w w1) := hide ((unhide H3).trans (unhide HK1) (by simp))
      cases hv : lvE (c k) with
      | false =>
        have b1 := hide b1
        have x1 := hide x1
        clear HA
        go_wp2_with fail
        go_roundw
        case rel =>
          exact ⟨k + 1, n, by omega, hn, by go_num, rfl, hide (by rw [cnt_one, hv]; exact unhide H1), hide (fun j hj hl => by
            rcases Nat.lt_or_ge j k with g | g
            · exact unhide H2 j g hl
            · obtain rfl : j = k := by omega
              rw [hv] at hl; cases hl), H3', b1, x1⟩
        case measure => simp [intOf]; omega
      | true =>
        have s1 := b1.s k hk1
        have s2 := b1.p k hk1
        have s3 := b1.q k hk1
        have y1 := x1.cell (i := 0) (v := .int .i64 s) rfl
        have y2 := x1.cell (i := 1) (v := .int .i64 p) rfl
        have y3 := x1.cell (i := 2) (v := .int .i64 q) rfl
        have EQ : ∀ W, (Op.equalIn 10000 54 (.agg #[.int .i64 (c k).s, .int .i64 (c k).p, .int .i64 (c k).q]) (.agg #[.int .i64 s, .int .i64 p, .int .i64 q])).run Try.prog W = .ok (keyE (c k) s p q) W := fun W => eqK 9998 _ _ _ _ _ _ W
        have b1 := hide b1
        have x1 := hide x1
        cases hke : keyE (c k) s p q with
        | false =>
          rw [hke] at EQ
          clear HA
          go_wp2_with fail
          go_quiet (fail)
          go_wp2_with fail
          go_roundw
          case rel =>
            exact ⟨k + 1, n - 1, by omega, by omega, by go_num, by go_num, hide (by rw [cnt_one, hv]; have := unhide H1; simp; omega), hide (fun j hj hl => by
              rcases Nat.lt_or_ge j k with g | g
              · exact unhide H2 j g hl
              · obtain rfl : j = k := by omega
                exact hke), hide ((unhide H3').trans (Kp.drewQ _ _) (by simp)), hide ((unhide b1).kp (Kp.drewQ _ _) (by simp)), hide ((unhide x1).kp (Kp.drewQ _ _) (by simp))⟩
          case measure => simp [intOf]; omega
        | true =>
          rw [hke] at EQ
          clear HA
          go_wp2_with fail
          go_quiet (fail)
          go_wp2_with fail
          go_ret2
          exact ⟨_, _, rfl, hide (Or.inl ⟨rfl, k, rfl, hk1, hv, hke⟩), (unhide H3').trans (Kp.drewQ _ _) (by simp)⟩
    · obtain rfl : n = 0 := by omega
      go_wp2_with fail
      go_ret2
      exact ⟨_, _, rfl, hide (Or.inr ⟨rfl, rfl, fun i hi hl => by
        rcases Nat.lt_or_ge i k with g | g
        · exact unhide H2 i g hl
        · have e := cnt_same (f := fun i => lvE (c i)) (n := k) (m := 4096) (by have a := unhide H1; have b := unhide HM; omega) i g hi
          rw [hl] at e; cases e⟩), unhide H3⟩
set_option maxHeartbeats 1000000 in
set_option maxRecDepth 100000 in
theorem free_any (b : Nat) (c : Nat → Ent) (m : Int) (i : Nat) (w : World) (h : Bu b c m w) (hS : Sml c) (hi : i < 4096) (hv : lvE (c i) = false) (hf : ∀ j, j < i → lvE (c j) = true) : Calls Try.prog 37 #[.pointer (some ⟨b, 0, none⟩)] w fun e w' => e = .returned (.int .i64 (i : Int)) ∧ Kp [] w w' := by
  have HU := hide h
  clear h
  go_enter Try.func37, Try.ntmps37
  go_wp2_with fail
  go_loopw [3] (fun v wr => ∃ k : Nat, k ≤ i ∧ v = .int .i64 (k : Int) ∧ Hid (Kp [] w wr) ∧ Hid (Bu b c m wr)) (fun v _ => 4096 - (intOf v).toNat)
  case atStart => exact ⟨0, by omega, rfl, hide (Kp.refl _ _), HU⟩
  case round =>
    clear HU
    obtain ⟨k, hk, rfl, H3, H4⟩ := hrel
    have HA := hide (has_any b (k : Int) c m wr (unhide H4) hS)
    rw [hasE_nat c k (by omega)] at HA
    rcases Nat.lt_or_ge k i with g | g
    · rw [hf k g] at HA
      go_wp2_with fail
      refine (unhide HA).mono ?_
      rintro r w1 ⟨rfl, HK1⟩
      have HK1 := hide HK1
      clear HA
      go_wp2_with fail
      go_roundw
      case rel => exact ⟨k + 1, by omega, by go_num, hide ((unhide H3).trans (unhide HK1) (by simp)), hide ((unhide H4).kp (unhide HK1) (by simp))⟩
      case measure => simp [intOf]; omega
    · obtain rfl : k = i := by omega
      rw [hv] at HA
      go_wp2_with fail
      refine (unhide HA).mono ?_
      rintro r w1 ⟨rfl, HK1⟩
      have HK1 := hide HK1
      clear HA
      go_wp2_with fail
      go_ret
      exact ⟨rfl, (unhide H3).trans (unhide HK1) (by simp)⟩
end Go.Proofs.Ythdfaidjdddagaa
