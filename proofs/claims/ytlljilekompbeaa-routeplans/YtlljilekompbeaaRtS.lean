/-
  The document's plan: all its channels, as a row of pairs.
-/
import Derived.Test.YtlljilekompbeaaRtR
import Derived.Test.YtlljilekompbeaaREnP
namespace Go.Proofs.Ytlljilekompbeaa
open Go.RowKit

/-- The first channels, as cells: of each the tasks. -/
def prC (S M : Nat) : Nat → List Value
  | 0 => []
  | k + 1 => prC S M k ++ [.int .i64 (frC S M k : Int), .int .i64 (toC S M k : Int)]
theorem prC_len (S M k : Nat) : (prC S M k).length = k * 2 := by
  induction k with
  | zero => rfl
  | succ k ih => unfold prC; rw [List.length_append, ih]; simp; omega
theorem prC_at (S M n k : Nat) (h : k < n) : (prC S M n)[k * 2]? = some (.int .i64 (frC S M k : Int)) ∧ (prC S M n)[k * 2 + 1]? = some (.int .i64 (toC S M k : Int)) := by
  induction n with
  | zero => omega
  | succ n ih =>
    unfold prC
    have hl := prC_len S M n
    rcases Nat.lt_or_ge k n with h1 | h1
    · rw [List.getElem?_append_left (by omega), List.getElem?_append_left (by omega)]
      exact ih h1
    · obtain rfl : k = n := by omega
      rw [List.getElem?_append_right (by omega), List.getElem?_append_right (by omega), hl, show k * 2 - k * 2 = 0 by omega, show k * 2 + 1 - k * 2 = 1 by omega]
      exact ⟨rfl, rfl⟩
/-- A row of channels that the call itself made. -/
def OwnQ (B : Nat) (w : World) (v : Value) (S M n : Nat) : Prop := w.ownsRow B 50 2 v n (prC S M n)
theorem OwnQ.kp {B : Nat} {w w' : World} {v : Value} {S M n : Nat} (h : OwnQ B w v S M n) (hk : Kp [] w w') : OwnQ B w' v S M n := by
  obtain ⟨h0, ⟨rfl, h1⟩ | ⟨g, cap, cur, rfl, hg, hh, h2, h3, h4, h5⟩⟩ := h
  · exact ⟨h0, Or.inl ⟨rfl, h1⟩⟩
  · refine ⟨h0, Or.inr ⟨g, cap, cur, rfl, hg, ?_, h2, h3, h4, h5⟩⟩
    rw [hk.block g (by rcases Nat.lt_or_ge g w.heap.size with h | h; exact h; rw [Array.getElem?_eq_none h] at hh; cases hh) (by simp)]
    exact hh
theorem OwnQ.mono {B B' : Nat} {w : World} {v : Value} {S M n : Nat} (h : OwnQ B w v S M n) (hB : B' ≤ B) : OwnQ B' w v S M n := by
  obtain ⟨h0, ⟨rfl, h1⟩ | ⟨g, cap, cur, rfl, hg, hh, h2, h3, h4, h5⟩⟩ := h
  · exact ⟨h0, Or.inl ⟨rfl, h1⟩⟩
  · exact ⟨h0, Or.inr ⟨g, cap, cur, rfl, Nat.le_trans hB hg, hh, h2, h3, h4, h5⟩⟩
/-- Where its channels lie. -/
theorem OwnQ.at {B : Nat} {w : World} {v : Value} {S M n : Nat} (h : OwnQ B w v S M n) : ∃ ad cap, v = .slice ad n cap ∧ ∀ c, c < n → ∃ g, ad = some ⟨g, 0, none⟩ ∧ w.cell? ⟨g, c * 2, none⟩ = some (.int .i64 (frC S M c : Int)) ∧ w.cell? ⟨g, c * 2 + 1, none⟩ = some (.int .i64 (toC S M c : Int)) := by
  obtain ⟨h0, ⟨rfl, h1⟩ | ⟨g, cap, cur, rfl, hg, hh, h2, h3, h4, h5⟩⟩ := h
  · exact ⟨none, 0, by rw [h1], fun i hi => by omega⟩
  · refine ⟨_, cap, rfl, fun c hc => ⟨g, rfl, ?_⟩⟩
    obtain ⟨a1, a2⟩ := prC_at S M n c hc
    rw [← h5, List.getElem?_take_of_lt (by omega)] at a1 a2
    simp at a1 a2
    exact ⟨by simp [World.cell?, hh, a1], by simp [World.cell?, hh, a2]⟩
theorem info_pair : (Try.prog.info? 50).map (fun i => (i.zero, i.size, i.bytes)) = some (some (.agg #[.int .i64 0, .int .i64 0]), 2, 16) := by kernel_rfl
theorem two_new (W : World) (n : Nat) (hn : W.heap.size = n) (x y : Value) (t : TypeId) : ∀ (j : Nat) (u : Value), [x, y][j]? = some u → (W.alloc (.cells #[x, y] t)).cell? ((⟨n, 0, none⟩ : Addr).add j) = some u := fun j u hj => by
  subst hn
  match j, hj with
  | 0, hj => simp at hj; subst hj; exact (CBox.new W #[x, y] t).cell rfl
  | 1, hj => simp at hj; subst hj; exact (CBox.new W #[x, y] t).cell rfl
theorem refAll_no (g s m : Int) (w : World) (h : mayP g s m = false) : Calls Try.prog 13 #[.agg #[.int .i64 g, .int .i64 s, .int .i64 m]] w fun e w' => e = .returned (.slice none 0 0) ∧ Kp [] w w' := by
  have MB := hide (refMayP_any g s m)
  rw [h] at MB
  go_enter Try.func13, Try.ntmps13
  go_wp2_with fail
  refine (unhide MB _).mono ?_
  rintro r w1 ⟨rfl, hk⟩
  go_wp2
  go_ret
  exact ⟨rfl, kp_two hk⟩
/-- What lies there while the channels are put together. -/
structure AlS (w w1 : World) (q : Nat) (G S M : Nat) (v : Value) (n : Nat) (wr : World) : Prop where
  kp : Kp [] w1 wr
  p : PBox q 24 (G : Int) (S : Int) (M : Int) wr
  o : OwnQ w1.heap.size wr v S M n
theorem AlS.grow {w w1 wr w5 : World} {q G S M n : Nat} {v v' : Value} {o : Obj} (h : AlS w w1 q G S M v n wr) (hg : (wr.alloc o).grownBy w5 v.ownBlock) (ho : w5.ownsRow w1.heap.size 50 2 v' (n + 1) (prC S M n ++ [.int .i64 (frC S M n : Int), .int .i64 (toC S M n : Int)])) (hq : q < w1.heap.size) : AlS w w1 q G S M v' (n + 1) w5 := by
  have hF : ∀ x ∈ v.ownBlock.toList, w1.heap.size ≤ x := by
    intro z hz
    cases hv : v.ownBlock with
    | none => rw [hv] at hz; cases hz
    | some g =>
      rw [hv] at hz
      simp at hz
      subst hz
      exact (h.o.lt _ hv).1
  refine ⟨((h.kp.trans (Kp.alloc _ _) (by simp)).trans (Kp.of hg) (fun z hz => Or.inr (hF z hz))), ?_, ho⟩
  refine (h.p.kp (Kp.alloc _ _) (by simp)).kp (Kp.of hg) (fun hz => ?_)
  have := hF _ hz
  omega
set_option maxHeartbeats 4000000 in
set_option maxRecDepth 100000 in
theorem refAll_ok (G S M : Nat) (w : World) (hm : MayP G S M) : Calls Try.prog 13 #[.agg #[.int .i64 (G : Int), .int .i64 (S : Int), .int .i64 (M : Int)]] w fun e w' => ∃ v, e = .returned v ∧ OwnQ w.heap.size w' v S M (S * M + M) ∧ Kp [] w w' := by
  have MB := hide (refMayP_any (G : Int) (S : Int) (M : Int))
  rw [hm.of] at MB
  have h1 := hm.s2
  have h2 := hm.gm.t3
  have HF := hide (fun n o => fr_of S M n o)
  have b1 := mul_lt_small S M (by omega) (by omega)
  obtain ⟨i0, hi, hz0, hz1, hz2⟩ := info_parts info_pair
  clear hm
  go_enter Try.func13, Try.ntmps13
  go_wp2_with fail
  refine (unhide MB _).mono ?_
  rintro r w1 ⟨rfl, hk⟩
  have HB : Hid (PBox w.heap.size 24 (G : Int) (S : Int) (M : Int) w1) := hide (PBox.kp (CBox.new w _ _) hk (by simp))
  have hq : w.heap.size < w1.heap.size := by have := hk.size; simp at this; omega
  have HK := hide (kp_two hk)
  clear hk MB
  go_wp2_with fail
  go_loopw [3, 4] (fun v i wr => ∃ (k : Nat) (ov : Value), k ≤ S ∧ i = .int .i64 (k : Int) ∧ ov = v ∧ Hid (AlS w w1 w.heap.size G S M ov (k * M) wr)) (fun _ i _ => S - (intOf i).toNat)
  case atStart => exact ⟨0, _, Nat.zero_le _, rfl, rfl, hide ⟨Kp.refl _ _, unhide HB, by rw [Nat.zero_mul]; exact ⟨rfl, Or.inl ⟨rfl, rfl⟩⟩⟩⟩
  case round =>
    obtain ⟨k, v, hk, rfl, rfl, HS⟩ := hrel
    obtain ⟨c0, c1, c2⟩ := (unhide HS).p.cells
    by_cases hlt : k < S
    · have hlt' : (k : Int) < (S : Int) := by omega
      go_wp2_with fail
      go_loopw [3, 5] (fun v i wr => ∃ (j : Nat) (ov : Value), j ≤ M ∧ i = .int .i64 (j : Int) ∧ ov = v ∧ Hid (AlS w w1 w.heap.size G S M ov (k * M + j) wr)) (fun _ i _ => M - (intOf i).toNat)
      case atStart => exact ⟨0, _, Nat.zero_le _, rfl, rfl, HS⟩
      case round =>
        obtain ⟨j, v2, hj, rfl, rfl, HS2⟩ := hrel
        clear c0 c1 c2 HS
        obtain ⟨c0, c1, c2⟩ := (unhide HS2).p.cells
        by_cases hjl : j < M
        · have hjl' : (j : Int) < (M : Int) := by omega
          obtain ⟨f1, f2, f3⟩ := unhide HF k j hjl hlt
          have hown : wr.ownsRow w1.heap.size 50 2 v2 (k * M + j) (prC S M (k * M + j)) := (unhide HS2).o
          have HG := hide (fun v' w5 hg ho => (unhide HS2).grow (v' := v') (w5 := w5) (o := .cells #[.int .i64 (k : Int), .int .i64 ((S : Int) + (j : Int))] 50) hg ho hq)
          rw [f1, f2] at HG
          have hs := (unhide HS2).kp.size
          generalize hc : k * M + j = c at *
          have HC := hide hc
          clear hc f1 f2 HF
          go_wp2_with (at_builtin; refine wpList_append_own _ rfl _ _ 29 rfl w1.heap.size 50 i0 (.agg #[.int .i64 0, .int .i64 0]) 2 16 Try.underlying29 hi hz0 hz1 hz2 rfl (by decide) _ _ _ rfl (hown.alloc _) ⟨wr.heap.size, 0, none⟩ 1 1 [.int .i64 (k : Int), .int .i64 ((S : Int) + (j : Int))] rfl rfl ?c1 ?c2 ?c3 ?c4 ?c5 ?_)
          case c1 => exact two_new _ _ (by simp) _ _ _
          case c2 => intro u hu; simp at hu; rcases hu with rfl | rfl <;> rfl
          case c3 => unfold maxLen; omega
          case c4 => omega
          case c5 => simp; omega
          intro v' w5 hown2 hgrow _
          have HS5 := hide (unhide HG v' w5 hgrow hown2)
          rw [← unhide HC] at HS5
          clear hown2 hgrow hown HG HS2 c0 c1 c2
          go_wp2
          go_roundw
          case rel => exact ⟨j + 1, _, by omega, by go_num, rfl, HS5⟩
          case measure => simp [intOf]; omega
        · obtain rfl : j = M := by omega
          have hjl' : ¬ ((j : Int) < (j : Int)) := by omega
          have HS3 : Hid (AlS w w1 w.heap.size G S j v2 ((k + 1) * j) wr) := by rw [Nat.add_mul, Nat.one_mul]; exact HS2
          go_wp2
          go_roundw
          case rel => exact ⟨k + 1, _, by omega, by go_num, rfl, HS3⟩
          case measure => simp [intOf]; omega
    · obtain rfl : k = S := by omega
      have hlt' : ¬ ((k : Int) < (k : Int)) := by omega
      go_wp2_with fail
      go_loopw [3, 6] (fun v i wr => ∃ (j : Nat) (ov : Value), j ≤ M ∧ i = .int .i64 (j : Int) ∧ ov = v ∧ Hid (AlS w w1 w.heap.size G k M ov (k * M + j) wr)) (fun _ i _ => M - (intOf i).toNat)
      case atStart => exact ⟨0, _, Nat.zero_le _, rfl, rfl, HS⟩
      case round =>
        obtain ⟨j, v2, hj, rfl, rfl, HS2⟩ := hrel
        clear c0 c1 c2 HS
        obtain ⟨c0, c1, c2⟩ := (unhide HS2).p.cells
        by_cases hjl : j < M
        · have hjl' : (j : Int) < (M : Int) := by omega
          have f1 : frC k M (k * M + j) = k + j := by unfold frC; rw [if_neg (by omega)]; omega
          have f2 : toC k M (k * M + j) = k + M := by unfold toC; rw [if_neg (by omega)]
          have hown : wr.ownsRow w1.heap.size 50 2 v2 (k * M + j) (prC k M (k * M + j)) := (unhide HS2).o
          have HG := hide (fun v' w5 hg ho => (unhide HS2).grow (v' := v') (w5 := w5) (o := .cells #[.int .i64 ((k : Int) + (j : Int)), .int .i64 ((k : Int) + (M : Int))] 50) hg ho hq)
          rw [f1, f2] at HG
          have hs := (unhide HS2).kp.size
          generalize hc : k * M + j = c at *
          have HC := hide hc
          have hcb : c ≤ 40016 := by omega
          clear hc f1 f2 HF
          go_wp2_with (at_builtin; refine wpList_append_own _ rfl _ _ 29 rfl w1.heap.size 50 i0 (.agg #[.int .i64 0, .int .i64 0]) 2 16 Try.underlying29 hi hz0 hz1 hz2 rfl (by decide) _ _ _ rfl (hown.alloc _) ⟨wr.heap.size, 0, none⟩ 1 1 [.int .i64 ((k : Int) + (j : Int)), .int .i64 ((k : Int) + (M : Int))] rfl rfl ?c1 ?c2 ?c3 ?c4 ?c5 ?_)
          case c1 => exact two_new _ _ (by simp) _ _ _
          case c2 => intro u hu; simp at hu; rcases hu with rfl | rfl <;> rfl
          case c3 => unfold maxLen; omega
          case c4 => omega
          case c5 => simp; omega
          intro v' w5 hown2 hgrow _
          have HS5 := hide (unhide HG v' w5 hgrow hown2)
          rw [← unhide HC] at HS5
          clear hown2 hgrow hown HG HS2 c0 c1 c2
          go_wp2
          go_roundw
          case rel => exact ⟨j + 1, _, by omega, by go_num, rfl, HS5⟩
          case measure => simp [intOf]; omega
        · obtain rfl : j = M := by omega
          have hjl' : ¬ ((j : Int) < (j : Int)) := by omega
          go_wp2
          go_ret
          exact ⟨_, rfl, (unhide HS2).o.mono (by omega), kp_tr (unhide HK) (unhide HS2).kp⟩
end Go.Proofs.Ytlljilekompbeaa
