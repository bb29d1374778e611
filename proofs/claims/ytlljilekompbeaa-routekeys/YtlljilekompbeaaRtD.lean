/-
  A plan: the channels with a task at one end: Ins and Outs.
-/
import Derived.Test.YtlljilekompbeaaRtC
namespace Go.Proofs.Ytlljilekompbeaa
open Go.RowKit

/-- Numbers as cells. -/
def nuC (l : List Nat) : List Value := l.map fun (k : Nat) => .int .i64 (k : Int)
theorem nuC_append (a b : List Nat) : nuC (a ++ b) = nuC a ++ nuC b := by unfold nuC; simp
theorem nuC_length (a : List Nat) : (nuC a).length = a.length := by unfold nuC; simp
/-- The channels below k that have the task t at that end. -/
def sdL (f : Nat → Nat) (t : Nat) : Nat → List Nat
  | 0 => []
  | k + 1 => sdL f t k ++ (if f k = t then [k] else [])
theorem sdL_len (f : Nat → Nat) (t k : Nat) : (sdL f t k).length ≤ k := by
  induction k with
  | zero => exact Nat.le_refl _
  | succ k ih => unfold sdL; rw [List.length_append]; split <;> simp <;> omega
/-- A row of numbers that the call itself made. -/
def OwnN (B : Nat) (w : World) (v : Value) (l : List Nat) : Prop := w.ownsRow B 3 1 v l.length (nuC l)
theorem info_num : (Try.prog.info? 3).map (fun i => (i.zero, i.size, i.bytes)) = some (some (.int .i64 0), 1, 8) := by kernel_rfl
theorem info_parts {i : Option TypeInfo} {z : Option Value} {s b : Nat} (h : i.map (fun i => (i.zero, i.size, i.bytes)) = some (z, s, b)) : ∃ j, i = some j ∧ j.zero = z ∧ j.size = s ∧ j.bytes = b := by
  cases i with
  | none => cases h
  | some j => simp at h; exact ⟨j, rfl, h.1, h.2.1, h.2.2⟩
theorem OwnN.kp {B : Nat} {w w' : World} {v : Value} {l : List Nat} (h : OwnN B w v l) (hk : Kp [] w w') : OwnN B w' v l := by
  obtain ⟨h0, ⟨rfl, h1⟩ | ⟨g, cap, cur, rfl, hg, hh, h2, h3, h4, h5⟩⟩ := h
  · exact ⟨h0, Or.inl ⟨rfl, h1⟩⟩
  · refine ⟨h0, Or.inr ⟨g, cap, cur, rfl, hg, ?_, h2, h3, h4, h5⟩⟩
    rw [hk.block g (by rcases Nat.lt_or_ge g w.heap.size with h | h; exact h; rw [Array.getElem?_eq_none h] at hh; cases hh) (by simp)]
    exact hh
theorem OwnN.mono {B B' : Nat} {w : World} {v : Value} {l : List Nat} (h : OwnN B w v l) (hB : B' ≤ B) : OwnN B' w v l := by
  obtain ⟨h0, ⟨rfl, h1⟩ | ⟨g, cap, cur, rfl, hg, hh, h2, h3, h4, h5⟩⟩ := h
  · exact ⟨h0, Or.inl ⟨rfl, h1⟩⟩
  · exact ⟨h0, Or.inr ⟨g, cap, cur, rfl, Nat.le_trans hB hg, hh, h2, h3, h4, h5⟩⟩
theorem chw_no (F : Nat) (g s m t : Int) (w : World) (h : mayP g s m = false) : Calls Try.prog 33 #[.agg #[.int .i64 g, .int .i64 s, .int .i64 m], .func (.func F) #[] #[], .int .i64 t] w fun e w' => e = .returned (.tuple #[.slice none 0 0, .int .i64 1]) ∧ Kp [] w w' := by
  have CT := hide (fun W => ctask_no g s m t W h)
  clear h
  go_enter Try.func33, Try.ntmps33
  go_wp2_with fail
  refine (unhide CT _).mono ?_
  rintro r w1 ⟨rfl, hk⟩
  go_wp2
  go_ret2
  exact ⟨rfl, kp_two hk⟩
theorem chw_not (F : Nat) (G S M : Nat) (t : Int) (w : World) (hm : MayP G S M) (ht : ¬ (0 ≤ t ∧ t < ((S + M + 1 : Nat) : Int))) : Calls Try.prog 33 #[.agg #[.int .i64 (G : Int), .int .i64 (S : Int), .int .i64 (M : Int)], .func (.func F) #[] #[], .int .i64 t] w fun e w' => e = .returned (.tuple #[.slice none 0 0, .int .i64 70]) ∧ Kp [] w w' := by
  have CT := hide (fun W => ctask_ok G S M t W hm)
  unfold tkE at CT
  rw [if_neg ht] at CT
  clear ht
  go_enter Try.func33, Try.ntmps33
  go_wp2_with fail
  refine (unhide CT _).mono ?_
  rintro r w1 ⟨rfl, hk⟩
  go_wp2
  go_ret2
  exact ⟨rfl, kp_two hk⟩
set_option maxHeartbeats 1000000 in
set_option maxRecDepth 100000 in
theorem chw_ok (F : Nat) (f : Nat → Nat) (G S M t : Nat) (w : World) (hm : MayP G S M) (ht : t < S + M + 1)
    (hen : ∀ args W, (callFunc F args).run Try.prog W = .ok (.enter F args) W)
    (hf : ∀ c W, c < S * M + M → Calls Try.prog F #[.agg #[.int .i64 (G : Int), .int .i64 (S : Int), .int .i64 (M : Int)], .int .i64 (c : Int)] W fun e w' => e = .returned (.int .i64 (f c : Int)) ∧ Kp [] W w') :
    Calls Try.prog 33 #[.agg #[.int .i64 (G : Int), .int .i64 (S : Int), .int .i64 (M : Int)], .func (.func F) #[] #[], .int .i64 (t : Int)] w fun e w' => ∃ v, e = .returned (.tuple #[v, .int .i64 0]) ∧ OwnN w.heap.size w' v (sdL f t (S * M + M)) ∧ Kp [] w w' := by
  have CT := hide (fun W => ctask_ok G S M (t : Int) W hm)
  unfold tkE at CT
  rw [if_pos (by omega)] at CT
  have CH := hide (fun W => chans_ok G S M W hm)
  have HF := hide hf
  have HE := hide hen
  have h1 := hm.s2
  have h2 := hm.gm.t3
  have b1 := mul_lt_small S M (by omega) (by omega)
  have hn : S * M + M ≤ 40016 := by omega
  generalize S * M + M = n at *
  obtain ⟨i0, hi, hz0, hz1, hz2⟩ := info_parts info_num
  clear hm ht hf hen b1 h1 h2
  go_enter Try.func33, Try.ntmps33
  go_wp2_with fail
  refine (unhide CT _).mono ?_
  rintro r w1 ⟨rfl, hk⟩
  have b1 : PBox w.heap.size 23 (G : Int) (S : Int) (M : Int) w1 := PBox.kp (CBox.new w _ _) hk (by simp)
  obtain ⟨c0, c1, c2⟩ := b1.cells
  have HK := hide (kp_two hk)
  clear hk CT
  go_wp2_with fail
  refine (unhide CH _).mono ?_
  rintro r w2 ⟨rfl, hk2⟩
  have HK2 := hide (kp_tr (unhide HK) hk2)
  have HB2 := hide (b1.kp hk2 (by simp))
  clear hk2 CH HK b1 c0 c1 c2
  go_wp2_with fail
  go_loopw [9, 19] (fun v i wr => ∃ (k : Nat) (ov : Value), k ≤ n ∧ i = .int .i64 (k : Int) ∧ ov = v ∧ Hid (OwnN w2.heap.size wr ov (sdL f t k)) ∧ Hid (Kp [] w2 wr)) (fun _ i _ => n - (intOf i).toNat)
  case atStart => exact ⟨0, _, Nat.zero_le _, rfl, rfl, hide ⟨rfl, Or.inl ⟨rfl, rfl⟩⟩, hide (Kp.refl _ _)⟩
  case round =>
    obtain ⟨k, v, hk, rfl, rfl, HO, HP⟩ := hrel
    obtain ⟨c0, c1, c2⟩ := ((unhide HB2).kp (unhide HP) (by simp)).cells
    by_cases hlt : k < n
    · have P1 := hide (unhide HF k wr hlt)
      have HM : Hid (sdL f t (k + 1) = sdL f t k ++ (if f k = t then [k] else [])) := hide rfl
      have hle := sdL_len f t k
      clear HF
      generalize sdL f t k = L at *
      generalize f k = x at *
      go_wp2_with fail
      rw [unhide HE, Oper.upon_enter]
      refine (unhide P1).mono ?_
      rintro r w3 ⟨rfl, hk3⟩
      have HO3 := hide ((unhide HO).kp hk3)
      have HP3 := hide (kp_tr (unhide HP) hk3)
      clear P1 HO HP hk3 c0 c1 c2
      by_cases hxy : x = t
      · subst hxy
        have hown : w3.ownsRow w2.heap.size 3 1 v L.length (nuC L) := unhide HO3
        have hs := (unhide HP3).size
        have hs2 := (unhide HK2).size
        have HL : Hid (sdL f x (k + 1) = L ++ [k]) := hide (by have := unhide HM; rwa [if_pos rfl] at this)
        clear HM HO3
        go_wp2_with (at_builtin; refine wpList_append_own _ rfl _ _ 33 rfl w2.heap.size 3 i0 (.int .i64 0) 1 8 Try.underlying33 hi hz0 hz1 hz2 rfl (by decide) _ _ _ rfl (hown.alloc _) ⟨w3.heap.size, 0, none⟩ 1 1 [.int .i64 (k : Int)] rfl rfl ?c1 ?c2 ?c3 ?c4 ?c5 ?_)
        case c1 => exact one_new _ _ _
        case c2 => intro u hu; simp at hu; subst hu; rfl
        case c3 => unfold maxLen; omega
        case c4 => omega
        case c5 => simp; omega
        intro v' w5 hown2 hgrow _
        have hk5 : Kp [] w2 w5 := by
          refine ((unhide HP3).trans (Kp.alloc _ _) (by simp)).trans (Kp.of hgrow) ?_
          intro z hz
          right
          cases hv : v.ownBlock with
          | none => rw [hv] at hz; cases hz
          | some g =>
            rw [hv] at hz
            simp at hz
            subst hz
            exact (hown.lt _ hv).1
        have HO2 : Hid (OwnN w2.heap.size w5 v' (sdL f x (k + 1))) := hide (by
          unfold OwnN
          rw [unhide HL, nuC_append, List.length_append]
          exact hown2)
        have HK5 := hide hk5
        clear hown2 hgrow hown HL hk5
        go_wp2
        go_roundw
        case rel => exact ⟨k + 1, _, by omega, by go_num, rfl, HO2, HK5⟩
        case measure => simp [intOf]; omega
      · have hx1 : ¬ ((x : Int) = (t : Int)) := by omega
        have HO4 : Hid (OwnN w2.heap.size w3 v (sdL f t (k + 1))) := hide (by rw [unhide HM, if_neg hxy, List.append_nil]; exact unhide HO3)
        clear HM HO3
        go_wp2
        go_roundw
        case rel => exact ⟨k + 1, _, by omega, by go_num, rfl, HO4, HP3⟩
        case measure => simp [intOf]; omega
    · obtain rfl : k = n := by omega
      clear HF
      go_wp2
      go_ret2
      exact ⟨_, rfl, (unhide HO).mono (unhide HK2).size, kp_tr (unhide HK2) (unhide HP)⟩
end Go.Proofs.Ytlljilekompbeaa
