/-
  A meter: Join.
-/
import Derived.Test.YtmeoiljjfmlmgaaMeD
namespace Go.Proofs.Ytmeoiljjfmlmgaa
open Go.RowKit

theorem index8 (c : Nat → Int) (k : Nat) (hk : k < 8) (w : World) : (Instr.index 26 (.agg #[.int .i64 (c 0), .int .i64 (c 1), .int .i64 (c 2), .int .i64 (c 3), .int .i64 (c 4), .int .i64 (c 5), .int .i64 (c 6), .int .i64 (c 7)]) (.int .i64 (k : Int))).run Try.prog w = .ok (.int .i64 (c k)) w := by
  match k, hk with
  | 0, _ => simp [Instr.index, run_underlying Try.underlying26, part, Try.sizeOf3, go_sem]
  | 1, _ => simp [Instr.index, run_underlying Try.underlying26, part, Try.sizeOf3, go_sem]
  | 2, _ => simp [Instr.index, run_underlying Try.underlying26, part, Try.sizeOf3, go_sem]
  | 3, _ => simp [Instr.index, run_underlying Try.underlying26, part, Try.sizeOf3, go_sem]
  | 4, _ => simp [Instr.index, run_underlying Try.underlying26, part, Try.sizeOf3, go_sem]
  | 5, _ => simp [Instr.index, run_underlying Try.underlying26, part, Try.sizeOf3, go_sem]
  | 6, _ => simp [Instr.index, run_underlying Try.underlying26, part, Try.sizeOf3, go_sem]
  | 7, _ => simp [Instr.index, run_underlying Try.underlying26, part, Try.sizeOf3, go_sem]
/-- Do all sums fit? -/
def jnB (c d : Nat → Int) : Bool := (List.range 8).all fun k => decide (c k + d k ≤ 4611686018427387904)
theorem jnB_iff (c d : Nat → Int) : jnB c d = true ↔ ∀ k, k < 8 → c k + d k ≤ 4611686018427387904 := by
  unfold jnB
  rw [List.all_eq_true]
  exact ⟨fun h k hk => of_decide_eq_true (h k (List.mem_range.2 hk)), fun h k hk => decide_eq_true (h k (List.mem_range.1 hk))⟩
/-- What Join answers. -/
def jnE (c d : Nat → Int) : Int := if jnB c d then 0 else 2
/-- The first k joined. -/
def jn (c d : Nat → Int) (k : Nat) : Nat → Int := fun i => if i < k then c i + d i else c i
/-- The counts behind it. -/
def jnC (c d : Nat → Int) : Nat → Int := if jnB c d then (fun i => c i + d i) else c
theorem jn_next (c d : Nat → Int) (k : Nat) : up (jn c d k) k (jn c d k k + d k) = jn c d (k + 1) := by
  funext i
  unfold up jn
  by_cases h : i = k
  · subst h; simp
  · by_cases h2 : i < k
    · simp [h, h2, show i < k + 1 by omega]
    · simp [h, h2, show ¬ i < k + 1 by omega]
theorem jn_at (c d : Nat → Int) (k : Nat) : jn c d k k = c k := by unfold jn; simp
theorem jn_none (c d : Nat → Int) : jn c d 0 = c := by funext i; unfold jn; simp
set_option maxHeartbeats 1000000 in
set_option maxRecDepth 100000 in
theorem join_any (b o : Nat) (c d : Nat → Int) (w : World) (h : Mt 57 b c w) (ho : Mt 57 o d w) : Calls Try.prog 13 #[.pointer (some ⟨b, 0, none⟩), .pointer (some ⟨o, 0, none⟩)] w fun e w' => e = .returned (.int .i64 (jnE c d)) ∧ Mt 57 b (jnC c d) w' ∧ Kp [b] w w' := by
  have AL := hide (all_any o d w ho)
  have HM := hide h
  have HD := hide (And.intro ho.low ho.top)
  have IX := hide (index8 d)
  unfold mC at AL
  clear h ho
  go_enter Try.func13, Try.ntmps13
  go_wp2_with fail
  refine (unhide AL).mono ?_
  rintro r w1 ⟨rfl, _, hk1⟩
  have HK1 := hide hk1
  clear hk1 AL
  go_wp2_with fail
  have HS : Hid (CBox w1.heap.size (mC d) 26 (w1.alloc (.cells (mC d) 26)) ∧ Kp [] w (w1.alloc (.cells (mC d) 26))) := hide ⟨CBox.new w1 _ _, kp_tr (unhide HK1) (Kp.alloc _ _)⟩
  have hbq : w.heap.size ≤ w1.heap.size := (unhide HK1).size
  have hbl : b < w.heap.size := (unhide HM).lt
  go_loopw [15] (fun i wr => ∃ k : Nat, k ≤ 8 ∧ i = .int .i64 (k : Int) ∧ Hid ((CBox w1.heap.size (mC d) 26 wr ∧ Kp [] w wr) ∧ ∀ j, j < k → c j + d j ≤ 4611686018427387904)) (fun i _ => 8 - (intOf i).toNat)
  case atStart => exact ⟨0, by decide, rfl, hide ⟨HS, fun j hj => by omega⟩⟩
  case round =>
    clear HS
    obtain ⟨k, hk, rfl, HR⟩ := hrel
    by_cases hk8 : k < 8
    · have h1 : (k : Int) < 8 := by omega
      have ix := unhide IX k hk8
      have CO := hide (meCount_any b k (c k) hk8 wr (((unhide HM).kp (unhide HR).1.2 (by simp)).cell k hk8))
      have d0 := (unhide HD).1 k hk8
      have d1 := (unhide HD).2 k hk8
      have FI := hide (fun W => meFits_any (c k) (d k) d0 (by omega) W)
      by_cases hf : c k + d k ≤ 4611686018427387904
      · have hd : decide (c k + d k ≤ 4611686018427387904) = true := by simpa using hf
        rw [hd] at FI
        have HN : Hid ((CBox w1.heap.size (mC d) 26 wr ∧ Kp [] w wr) ∧ ∀ j, j < k + 1 → c j + d j ≤ 4611686018427387904) := hide ⟨(unhide HR).1, fun j hj => by
          by_cases e : j = k
          · rw [e]; exact hf
          · exact (unhide HR).2 j (by omega)⟩
        clear HR HM hd hf HD d0 d1
        generalize c k = ck at *
        generalize d k = dk at *
        go_wp2_with fail
        refine (unhide CO).mono ?_
        rintro r w2 ⟨rfl, rfl⟩
        go_wp2_with fail
        refine (unhide FI _).mono ?_
        rintro r w2 ⟨rfl, rfl⟩
        go_wp2
        go_roundw
        case rel => exact ⟨k + 1, by omega, by go_num, HN⟩
        case measure => simp [intOf]; omega
      · have hd : decide (c k + d k ≤ 4611686018427387904) = false := by simpa using hf
        rw [hd] at FI
        have HJ : Hid (jnB c d = false) := hide (by
          cases hj : jnB c d with
          | false => rfl
          | true => exact absurd ((jnB_iff c d).1 hj k hk8) hf)
        have HK := hide (unhide HR).1.2
        clear HR hd hf HD d0 d1
        generalize c k = ck at *
        generalize d k = dk at *
        go_wp2_with fail
        refine (unhide CO).mono ?_
        rintro r w2 ⟨rfl, rfl⟩
        go_wp2_with fail
        refine (unhide FI _).mono ?_
        rintro r w2 ⟨rfl, rfl⟩
        go_wp2
        go_ret
        refine ⟨?_, ?_, (unhide HK).mono (by simp)⟩
        · unfold jnE; rw [unhide HJ]; rfl
        · unfold jnC; rw [unhide HJ]; exact (unhide HM).kp (unhide HK) (by simp)
    · have HJ : Hid (jnB c d = true) := hide ((jnB_iff c d).2 (fun j hj => (unhide HR).2 j (by omega)))
      have HL : Hid (∀ j, j < 8 → c j + d j ≤ 4611686018427387904) := hide (fun j hj => (unhide HR).2 j (by omega))
      have HKR : Hid (Kp [] w wr) := hide (unhide HR).1.2
      have hx := (unhide HR).1.1
      have x0 := hx.cell (mC_at d 0 (by decide))
      have x1 := hx.cell (mC_at d 1 (by decide))
      have x2 := hx.cell (mC_at d 2 (by decide))
      have x3 := hx.cell (mC_at d 3 (by decide))
      have x4 := hx.cell (mC_at d 4 (by decide))
      have x5 := hx.cell (mC_at d 5 (by decide))
      have x6 := hx.cell (mC_at d 6 (by decide))
      have x7 := hx.cell (mC_at d 7 (by decide))
      have HS : Hid (Mt 57 b (jn c d 0) wr ∧ Kp [b] w wr) := hide ⟨by rw [jn_none]; exact (unhide HM).kp (unhide HKR) (by simp), (unhide HKR).mono (by simp)⟩
      clear hx HR HM HKR
      go_wp2_with fail
      clear x0 x1 x2 x3 x4 x5 x6 x7
      go_loopw [27] (fun i wr2 => ∃ k : Nat, k ≤ 8 ∧ i = .int .i64 (k : Int) ∧ Hid (Mt 57 b (jn c d k) wr2 ∧ Kp [b] w wr2)) (fun i _ => 8 - (intOf i).toNat)
      case atStart => exact ⟨0, by decide, rfl, HS⟩
      case round =>
        clear HS
        obtain ⟨k, hk, rfl, HR⟩ := hrel
        by_cases hk8 : k < 8
        · have h1 : (k : Int) < 8 := by omega
          have ix := unhide IX k hk8
          have d0 := (unhide HD).1 k hk8
          have RA := hide (raise_ok b k (jn c d k) (d k) wr hk8 (unhide HR).1 d0 (by rw [jn_at]; exact unhide HL k hk8))
          rw [jn_next] at RA
          have HK := hide (unhide HR).2
          clear HR d0 HL HD
          generalize jn c d k k + d k = V at *
          go_wp2_with fail
          refine (unhide RA).mono ?_
          rintro r w2 ⟨rfl, hb2, hk2⟩
          have HN : Hid (Mt 57 b (jn c d (k + 1)) w2 ∧ Kp [b] w w2) := hide ⟨hb2, (unhide HK).trans hk2 (fun _ hx => Or.inl hx)⟩
          clear hb2 hk2 RA HK
          go_wp2
          go_roundw
          case rel => exact ⟨k + 1, by omega, by go_num, HN⟩
          case measure => simp [intOf]; omega
        · have hk9 : k = 8 := by omega
          subst hk9
          go_wp2
          go_ret
          refine ⟨?_, ?_, (unhide HR).2⟩
          · unfold jnE; rw [unhide HJ]; rfl
          · unfold jnC; rw [unhide HJ, if_pos rfl]; exact (unhide HR).1.ext (fun i hi => by unfold jn; rw [if_pos hi])
theorem join_none (b : Nat) (w : World) : Calls Try.prog 13 #[.pointer (some ⟨b, 0, none⟩), .pointer none] w fun e w' => e = .returned (.int .i64 5) ∧ w' = w := by
  go_enter Try.func13, Try.ntmps13
  go_wp2
  go_ret
  exact ⟨rfl, rfl⟩
end Go.Proofs.Ytmeoiljjfmlmgaa
