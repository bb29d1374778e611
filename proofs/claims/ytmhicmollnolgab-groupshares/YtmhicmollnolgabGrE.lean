/-
  Moves: rows of triples; a group's moves.
-/
import Derived.Test.YtmhicmollnolgabGrD
namespace Go.Proofs.Ytmhicmollnolgab
open Go.RowKit

theorem eq3 (d : Nat) (a0 a1 a2 b0 b1 b2 : Int) (w : World) : (Op.equalIn (d + 2) 36 (.agg #[.int .i64 a0, .int .i64 a1, .int .i64 a2]) (.agg #[.int .i64 b0, .int .i64 b1, .int .i64 b2])).run Try.prog w = .ok (a0 == b0 && (a1 == b1 && a2 == b2)) w := by
  have hi := fun (a b : Int) (w : World) => run_equalIn_int (P := Try.prog) w d 3 .i64 .i64 a b Try.underlying3
  unfold Op.equalIn
  simp only [Sem.run_bind, run_underlying Try.underlying36, Result.andThen_ok]
  simp [part, Try.sizeOf3, go_sem, hi, Std.Legacy.Range.forIn_eq_forIn_range', List.range'_succ]
  by_cases h0 : a0 = b0 <;> by_cases h1 : a1 = b1 <;> by_cases h2 : a2 = b2 <;> simp [h0, h1, h2]
/-- A move: a group, its owner then, its owner now. -/
def mvC1 (m : Nat × Nat × Nat) : List Value := [.int .i64 (m.1 : Int), .int .i64 (m.2.1 : Int), .int .i64 (m.2.2 : Int)]
/-- Moves as cells. -/
def mvC (l : List (Nat × Nat × Nat)) : List Value := l.flatMap mvC1
theorem mvC_append (a b : List (Nat × Nat × Nat)) : mvC (a ++ b) = mvC a ++ mvC b := by unfold mvC; simp
theorem mvC_length (a : List (Nat × Nat × Nat)) : (mvC a).length = a.length * 3 := by
  unfold mvC
  induction a with
  | nil => rfl
  | cons x a ih => rw [List.flatMap_cons, List.length_append, ih, List.length_cons]; simp [mvC1]; omega
/-- The moves of the first k groups. -/
def mvL (G a b : Nat) : Nat → List (Nat × Nat × Nat)
  | 0 => []
  | k + 1 => mvL G a b k ++ (if own G a k = own G b k then [] else [(k, own G a k, own G b k)])
theorem mvL_len (G a b k : Nat) : (mvL G a b k).length ≤ k := by
  induction k with
  | zero => exact Nat.le_refl _
  | succ k ih => unfold mvL; rw [List.length_append]; split <;> simp <;> omega
theorem info_tri : (Try.prog.info? 36).map (fun i => (i.zero, i.size, i.bytes)) = some (some (.agg #[.int .i64 0, .int .i64 0, .int .i64 0]), 3, 24) := by kernel_rfl
theorem info_parts {i : Option TypeInfo} {z : Option Value} {s b : Nat} (h : i.map (fun i => (i.zero, i.size, i.bytes)) = some (z, s, b)) : ∃ j, i = some j ∧ j.zero = z ∧ j.size = s ∧ j.bytes = b := by
  cases i with
  | none => cases h
  | some j => simp at h; exact ⟨j, rfl, h.1, h.2.1, h.2.2⟩
/-- A row of moves that the call itself made. -/
def OwnM (B : Nat) (w : World) (v : Value) (l : List (Nat × Nat × Nat)) : Prop := w.ownsRow B 36 3 v l.length (mvC l)
theorem tri_new (W : World) (n : Nat) (hn : W.heap.size = n) (x y z : Value) (t : TypeId) : ∀ (j : Nat) (u : Value), [x, y, z][j]? = some u → (W.alloc (.cells #[x, y, z] t)).cell? ((⟨n, 0, none⟩ : Addr).add j) = some u := fun j u hj => by
  subst hn
  match j, hj with
  | 0, hj => simp at hj; subst hj; exact (CBox.new W #[x, y, z] t).cell rfl
  | 1, hj => simp at hj; subst hj; exact (CBox.new W #[x, y, z] t).cell rfl
  | 2, hj => simp at hj; subst hj; exact (CBox.new W #[x, y, z] t).cell rfl
theorem moves_no (g a b : Int) (w : World) (h : (mayT g a && mayT g b) = false) : Calls Try.prog 9 #[.int .i64 g, .int .i64 a, .int .i64 b] w fun e w' => e = .returned (.tuple #[.slice none 0 0, .int .i64 1]) ∧ w' = w := by
  have M1 := hide (mayBeTasks_any g a w)
  have M2 := hide (mayBeTasks_any g b w)
  cases h1 : mayT g a with
  | false =>
    rw [h1] at M1
    clear h h1 M2
    go_enter Try.func9, Try.ntmps9
    go_wp2_with fail
    refine (unhide M1).mono ?_
    rintro r w1 ⟨rfl, rfl⟩
    go_wp2
    go_ret2
    exact ⟨rfl, rfl⟩
  | true =>
    rw [h1] at M1 h
    rw [Bool.true_and] at h
    rw [h] at M2
    clear h h1
    go_enter Try.func9, Try.ntmps9
    go_wp2_with fail
    refine (unhide M1).mono ?_
    rintro r w1 ⟨rfl, rfl⟩
    go_wp2_with fail
    refine (unhide M2).mono ?_
    rintro r w2 ⟨rfl, rfl⟩
    go_wp2
    go_ret2
    exact ⟨rfl, rfl⟩
set_option maxHeartbeats 1000000 in
set_option maxRecDepth 100000 in
theorem moves_ok (G a b : Nat) (w : World) (ha : May G a) (hb : May G b) : Calls Try.prog 9 #[.int .i64 (G : Int), .int .i64 (a : Int), .int .i64 (b : Int)] w fun e w' => ∃ v, e = .returned (.tuple #[v, .int .i64 0]) ∧ OwnM w.heap.size w' v (mvL G a b G) ∧ Kp [] w w' := by
  have M1 := hide (mayBeTasks_any (G : Int) (a : Int) w)
  have M2 := hide (mayBeTasks_any (G : Int) (b : Int) w)
  rw [ha.of] at M1
  rw [hb.of] at M2
  have hG := ha.g2
  have O1 := hide (fun q W (hq : q < G) => ownerOf_any G a q W ha.g1 ha.t1 ha.t3 (by omega))
  have O2 := hide (fun q W (hq : q < G) => ownerOf_any G b q W hb.g1 hb.t1 hb.t3 (by omega))
  have E3 := eq3
  obtain ⟨i0, hi, hz0, hz1, hz2⟩ := info_parts info_tri
  clear ha hb
  go_enter Try.func9, Try.ntmps9
  go_wp2_with fail
  refine (unhide M1).mono ?_
  rintro r w1 ⟨rfl, rfl⟩
  go_wp2_with fail
  refine (unhide M2).mono ?_
  rintro r w2 ⟨rfl, rfl⟩
  clear M1 M2
  go_wp2_with fail
  go_loopw [8, 25] (fun v i wr => ∃ (k : Nat) (ov : Value), k ≤ G ∧ i = .int .i64 (k : Int) ∧ ov = v ∧ Hid (OwnM w2.heap.size wr ov (mvL G a b k)) ∧ Kp [] w2 wr) (fun _ i _ => G - (intOf i).toNat)
  case atStart => exact ⟨0, _, Nat.zero_le _, rfl, rfl, hide ⟨rfl, Or.inl ⟨rfl, rfl⟩⟩, Kp.refl _ _⟩
  case round =>
    obtain ⟨k, v, hk, rfl, rfl, HO, kp⟩ := hrel
    by_cases hlt : k < G
    · have P1 := hide (unhide O1 k wr hlt)
      have P2 := hide (unhide O2 k wr hlt)
      have HM : Hid (mvL G a b (k + 1) = mvL G a b k ++ (if own G a k = own G b k then [] else [(k, own G a k, own G b k)])) := hide rfl
      have hle := mvL_len G a b k
      clear O1 O2
      generalize mvL G a b k = L at *
      generalize own G a k = x at *
      generalize own G b k = y at *
      go_wp2_with fail
      refine (unhide P1).mono ?_
      rintro r w3 ⟨rfl, rfl⟩
      go_wp2_with fail
      refine (unhide P2).mono ?_
      rintro r w4 ⟨rfl, rfl⟩
      clear P1 P2
      by_cases hxy : x = y
      · subst hxy
        have hm := unhide HM
        rw [if_pos rfl, List.append_nil] at hm
        have HM2 := hide hm
        clear HM hm
        go_wp2
        go_roundw
        case rel =>
          refine ⟨k + 1, _, by omega, by go_num, rfl, ?_, (kp.trans (Kp.alloc _ _) (by simp)).trans (Kp.alloc _ _) (by simp)⟩
          rw [unhide HM2]
          exact hide (((unhide HO).alloc _).alloc _)
        case measure => simp [intOf]; omega
      · have hx1 : ¬ ((y : Int) = (x : Int)) := by omega
        have hx2 : ((y : Int) == (x : Int)) = false := by simpa using hx1
        have hown : w4.ownsRow w2.heap.size 36 3 v L.length (mvC L) := unhide HO
        have hs := kp.size
        have hm : mvL G a b (k + 1) = L ++ [(k, x, y)] := by have := unhide HM; rwa [if_neg hxy] at this
        have HL := hide hm
        clear hm HM HO
        go_wp2_with (at_builtin; refine wpList_append_own _ rfl _ _ 33 rfl w2.heap.size 36 i0 (.agg #[.int .i64 0, .int .i64 0, .int .i64 0]) 3 24 Try.underlying33 hi hz0 hz1 hz2 rfl (by decide) _ _ _ rfl (((hown.alloc _).alloc _).alloc _) ⟨w4.heap.size + 2, 0, none⟩ 1 1 [.int .i64 (k : Int), .int .i64 (x : Int), .int .i64 (y : Int)] rfl rfl ?c1 ?c2 ?c3 ?c4 ?c5 ?_)
        case c1 => exact tri_new _ _ (by simp) _ _ _ _
        case c2 => intro u hu; simp at hu; rcases hu with rfl | rfl | rfl <;> rfl
        case c3 => unfold maxLen; omega
        case c4 => omega
        case c5 => simp; omega
        intro v' w5 hown2 hgrow _
        have hk5 : Kp [] w2 w5 := by
          refine (((kp.trans (Kp.alloc _ _) (by simp)).trans (Kp.alloc _ _) (by simp)).trans (Kp.alloc _ _) (by simp)).trans (Kp.of hgrow) ?_
          intro z hz
          right
          cases hv : v.ownBlock with
          | none => rw [hv] at hz; cases hz
          | some g =>
            rw [hv] at hz
            simp at hz
            subst hz
            exact (hown.lt _ hv).1
        have HO2 : Hid (OwnM w2.heap.size w5 v' (mvL G a b (k + 1))) := hide (by
          unfold OwnM
          rw [unhide HL, mvC_append, List.length_append]
          exact hown2)
        clear hown2 hgrow hown kp HL
        go_wp2
        go_roundw
        case rel => exact ⟨k + 1, _, by omega, by go_num, rfl, HO2, hk5⟩
        case measure => simp [intOf]; omega
    · obtain rfl : k = G := by omega
      go_wp2
      go_ret2
      exact ⟨_, rfl, unhide HO, kp⟩
end Go.Proofs.Ytmhicmollnolgab
