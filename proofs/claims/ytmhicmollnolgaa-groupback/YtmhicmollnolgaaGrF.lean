/-
  The document's Moves; a row of moves, read.
-/
import Derived.Test.YtmhicmollnolgaaGrE
namespace Go.Proofs.Ytmhicmollnolgaa
open Go.RowKit

theorem refMoves_no (g a b : Int) (w : World) (h : (mayT g a && mayT g b) = false) : Calls Try.prog 19 #[.int .i64 g, .int .i64 a, .int .i64 b] w fun e w' => e = .returned (.tuple #[.slice none 0 0, .int .i64 1]) ∧ w' = w := by
  have M1 := hide (refMay_any g a w)
  have M2 := hide (refMay_any g b w)
  cases h1 : mayT g a with
  | false =>
    rw [h1] at M1
    clear h h1 M2
    go_enter Try.func19, Try.ntmps19
    go_wp2_with fail
    refine (unhide M1).mono ?_
    rintro r w1 ⟨rfl, rfl⟩
    go_wp2
    go_ret2
    exact ⟨rfl, rfl⟩
  | true =>
    rw [h1] at M1 h
    rw [Bool.true_and] at h
    rw [h] at M2
    clear h h1
    go_enter Try.func19, Try.ntmps19
    go_wp2_with fail
    refine (unhide M1).mono ?_
    rintro r w1 ⟨rfl, rfl⟩
    go_wp2_with fail
    refine (unhide M2).mono ?_
    rintro r w2 ⟨rfl, rfl⟩
    go_wp2
    go_ret2
    exact ⟨rfl, rfl⟩
set_option maxHeartbeats 1000000 in
set_option maxRecDepth 100000 in
theorem refMoves_ok (G a b : Nat) (w : World) (ha : May G a) (hb : May G b) : Calls Try.prog 19 #[.int .i64 (G : Int), .int .i64 (a : Int), .int .i64 (b : Int)] w fun e w' => ∃ v, e = .returned (.tuple #[v, .int .i64 0]) ∧ OwnM w.heap.size w' v (mvL G a b G) ∧ Kp [] w w' := by
  have M1 := hide (refMay_any (G : Int) (a : Int) w)
  have M2 := hide (refMay_any (G : Int) (b : Int) w)
  rw [ha.of] at M1
  rw [hb.of] at M2
  have hG := ha.g2
  have O1 := hide (fun q W (hq : q < G) => refOwner_ok G a q W ha hq)
  have O2 := hide (fun q W (hq : q < G) => refOwner_ok G b q W hb hq)
  obtain ⟨i0, hi, hz0, hz1, hz2⟩ := info_parts info_tri
  clear ha hb
  go_enter Try.func19, Try.ntmps19
  go_wp2_with fail
  refine (unhide M1).mono ?_
  rintro r w1 ⟨rfl, rfl⟩
  go_wp2_with fail
  refine (unhide M2).mono ?_
  rintro r w2 ⟨rfl, rfl⟩
  clear M1 M2
  go_wp2_with fail
  go_loopw [8, 9] (fun v i wr => ∃ (k : Nat) (ov : Value), k ≤ G ∧ i = .int .i64 (k : Int) ∧ ov = v ∧ Hid (OwnM w2.heap.size wr ov (mvL G a b k)) ∧ Kp [] w2 wr) (fun _ i _ => G - (intOf i).toNat)
  case atStart => exact ⟨0, _, Nat.zero_le _, rfl, rfl, hide ⟨rfl, Or.inl ⟨rfl, rfl⟩⟩, Kp.refl _ _⟩
  case round =>
    obtain ⟨k, v, hk, rfl, rfl, HO, kp⟩ := hrel
    by_cases hlt : k < G
    · have P1 := hide (unhide O1 k wr hlt)
      have P2 := hide (unhide O2 k wr hlt)
      have HM : Hid (mvL G a b (k + 1) = mvL G a b k ++ (if own G a k = own G b k then [] else [(k, own G a k, own G b k)])) := hide rfl
      have hle := mvL_len G a b k
      clear O1 O2
      generalize mvL G a b k = L at *
      generalize own G a k = x at *
      generalize own G b k = y at *
      go_wp2_with fail
      refine (unhide P1).mono ?_
      rintro r w3 ⟨rfl, rfl⟩
      go_wp2_with fail
      refine (unhide P2).mono ?_
      rintro r w4 ⟨rfl, rfl⟩
      clear P1 P2
      by_cases hxy : x = y
      · subst hxy
        have hm := unhide HM
        rw [if_pos rfl, List.append_nil] at hm
        have HM2 := hide hm
        clear HM hm
        go_wp2
        go_roundw
        case rel =>
          refine ⟨k + 1, _, by omega, by go_num, rfl, ?_, kp⟩
          rw [unhide HM2]
          exact HO
        case measure => simp [intOf]; omega
      · have hx1 : ¬ ((x : Int) = (y : Int)) := by omega
        have hx2 : ((x : Int) == (y : Int)) = false := by simpa using hx1
        have hown : w4.ownsRow w2.heap.size 36 3 v L.length (mvC L) := unhide HO
        have hs := kp.size
        have hm : mvL G a b (k + 1) = L ++ [(k, x, y)] := by have := unhide HM; rwa [if_neg hxy] at this
        have HL := hide hm
        clear hm HM HO
        go_wp2_with (at_builtin; refine wpList_append_own _ rfl _ _ 33 rfl w2.heap.size 36 i0 (.agg #[.int .i64 0, .int .i64 0, .int .i64 0]) 3 24 Try.underlying33 hi hz0 hz1 hz2 rfl (by decide) _ _ _ rfl (hown.alloc _) ⟨w4.heap.size, 0, none⟩ 1 1 [.int .i64 (k : Int), .int .i64 (x : Int), .int .i64 (y : Int)] rfl rfl ?c1 ?c2 ?c3 ?c4 ?c5 ?_)
        case c1 => exact tri_new _ _ rfl _ _ _ _
        case c2 => intro u hu; simp at hu; rcases hu with rfl | rfl | rfl <;> rfl
        case c3 => unfold maxLen; omega
        case c4 => omega
        case c5 => simp; omega
        intro v' w5 hown2 hgrow _
        have hk5 : Kp [] w2 w5 := by
          refine (kp.trans (Kp.alloc _ _) (by simp)).trans (Kp.of hgrow) ?_
          intro z hz
          right
          cases hv : v.ownBlock with
          | none => rw [hv] at hz; cases hz
          | some g =>
            rw [hv] at hz
            simp at hz
            subst hz
            exact (hown.lt _ hv).1
        have HO2 : Hid (OwnM w2.heap.size w5 v' (mvL G a b (k + 1))) := hide (by
          unfold OwnM
          rw [unhide HL, mvC_append, List.length_append]
          exact hown2)
        clear hown2 hgrow hown kp HL
        go_wp2
        go_roundw
        case rel => exact ⟨k + 1, _, by omega, by go_num, rfl, HO2, hk5⟩
        case measure => simp [intOf]; omega
    · obtain rfl : k = G := by omega
      go_wp2
      go_ret2
      exact ⟨_, rfl, unhide HO, kp⟩
theorem mvC_at (l : List (Nat × Nat × Nat)) (i : Nat) (hi : i < l.length) : (mvC l)[i * 3]? = some (.int .i64 (l[i].1 : Int)) ∧ (mvC l)[i * 3 + 1]? = some (.int .i64 (l[i].2.1 : Int)) ∧ (mvC l)[i * 3 + 2]? = some (.int .i64 (l[i].2.2 : Int)) := by
  have e : l = l.take i ++ l[i] :: l.drop (i + 1) := by rw [List.getElem_cons_drop, List.take_append_drop]
  have hl : (mvC (l.take i)).length = i * 3 := by rw [mvC_length, List.length_take]; congr 1; omega
  have e2 : mvC l = mvC (l.take i) ++ (mvC1 l[i] ++ mvC (l.drop (i + 1))) := by
    have h := congrArg mvC e
    rw [mvC_append] at h
    refine h.trans ?_
    unfold mvC
    rw [List.flatMap_cons]
  rw [e2]
  refine ⟨?_, ?_, ?_⟩ <;> rw [List.getElem?_append_right (by omega), hl]
  · simp [mvC1]
  · rw [show i * 3 + 1 - i * 3 = 1 by omega]; simp [mvC1]
  · rw [show i * 3 + 2 - i * 3 = 2 by omega]; simp [mvC1]
/-- A row of moves, read at a place. -/
theorem OwnM.at {B : Nat} {w : World} {v : Value} {l : List (Nat × Nat × Nat)} (h : OwnM B w v l) (hl : 0 < l.length) : ∃ g cap, v = .slice (some ⟨g, 0, none⟩) l.length cap ∧ B ≤ g ∧ ∀ i (hi : i < l.length), w.cell? ⟨g, i * 3, none⟩ = some (.int .i64 (l[i].1 : Int)) ∧ w.cell? ⟨g, i * 3 + 1, none⟩ = some (.int .i64 (l[i].2.1 : Int)) ∧ w.cell? ⟨g, i * 3 + 2, none⟩ = some (.int .i64 (l[i].2.2 : Int)) := by
  obtain ⟨h0, ⟨rfl, h1⟩ | ⟨g, cap, cur, rfl, hg, hh, h2, h3, h4, h5⟩⟩ := h
  · omega
  · refine ⟨g, cap, rfl, hg, fun i hi => ?_⟩
    have key : ∀ j x, j < l.length * 3 → (mvC l)[j]? = some x → w.cell? ⟨g, j, none⟩ = some x := fun j x hj hx => by
      rw [← h5, List.getElem?_take_of_lt hj] at hx
      simp at hx
      simp [World.cell?, hh, hx]
    obtain ⟨c0, c1, c2⟩ := mvC_at l i hi
    exact ⟨key _ _ (by omega) c0, key _ _ (by omega) c1, key _ _ (by omega) c2⟩
theorem OwnM.len {B : Nat} {w : World} {v : Value} {l : List (Nat × Nat × Nat)} (h : OwnM B w v l) : ∃ ad cap, v = .slice ad l.length cap := by
  obtain ⟨h0, ⟨rfl, h1⟩ | ⟨g, cap, cur, rfl, hg, hh, h2, h3, h4, h5⟩⟩ := h
  · exact ⟨none, 0, by rw [h1]⟩
  · exact ⟨_, _, rfl⟩
/-- It stays where no block of its own is touched. -/
theorem OwnM.kp {B : Nat} {w w' : World} {v : Value} {l : List (Nat × Nat × Nat)} (h : OwnM B w v l) (hk : Kp [] w w') : OwnM B w' v l := by
  obtain ⟨h0, ⟨rfl, h1⟩ | ⟨g, cap, cur, rfl, hg, hh, h2, h3, h4, h5⟩⟩ := h
  · exact ⟨h0, Or.inl ⟨rfl, h1⟩⟩
  · exact ⟨h0, Or.inr ⟨g, cap, cur, rfl, hg, (hk.block g (Array.getElem?_eq_some_iff.1 hh).1 (by simp)).trans hh, h2, h3, h4, h5⟩⟩
end Go.Proofs.Ytmhicmollnolgaa
