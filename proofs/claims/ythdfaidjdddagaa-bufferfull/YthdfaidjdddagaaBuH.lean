/-
  Rows of pairs: held against one another; turned about.
-/
import Derived.Test.YthdfaidjdddagaaBuG
namespace Go.Proofs.Ythdfaidjdddagaa
open Go.RowKit

/-- A row of pairs lies there, to be read. -/
def PrAt (w : World) (v : Value) (l : List (Int × Int)) : Prop := ∃ ad cap, v = .slice ad l.length cap ∧ ∀ i (h : i < l.length), ∃ g, ad = some ⟨g, 0, none⟩ ∧ w.cell? ⟨g, i * 2, none⟩ = some (.int .i64 l[i].1) ∧ w.cell? ⟨g, i * 2 + 1, none⟩ = some (.int .i64 l[i].2)
theorem OwP.read {B : Nat} {w : World} {v : Value} {l : List (Int × Int)} (h : OwP B w v l) : PrAt w v l := by
  by_cases hl : l = []
  · subst hl
    obtain ⟨h0, ⟨rfl, h1⟩ | ⟨g, cap, cur, rfl, hg, hh, h2, h3, h4, h5⟩⟩ := h
    · exact ⟨none, 0, rfl, fun i hi => by simp at hi⟩
    · exact ⟨_, _, rfl, fun i hi => by simp at hi⟩
  · obtain ⟨g, cap, rfl, _, hf⟩ := OwP.at h hl
    refine ⟨_, _, rfl, fun i hi => ⟨g, rfl, ?_, ?_⟩⟩
    · have := hf.fst i hi
      simpa [List.getD_eq_getElem?_getD, List.getElem?_eq_getElem hi] using this
    · have := hf.snd i hi
      simpa [List.getD_eq_getElem?_getD, List.getElem?_eq_getElem hi] using this
theorem PrAt.kp {w w' : World} {v : Value} {l : List (Int × Int)} {F : List Nat} (h : PrAt w v l) (hk : Kp F w w') (hF : ∀ b, v.ownBlock = some b → b ∉ F) : PrAt w' v l := by
  obtain ⟨ad, cap, rfl, h1⟩ := h
  refine ⟨ad, cap, rfl, fun i hi => ?_⟩
  obtain ⟨g, rfl, h2, h3⟩ := h1 i hi
  have hg := hF g rfl
  exact ⟨g, rfl, hk.cell h2 hg, hk.cell h3 hg⟩
theorem PrAt.kp0 {w w' : World} {v : Value} {l : List (Int × Int)} (h : PrAt w v l) (hk : Kp [] w w') : PrAt w' v l := h.kp hk (fun _ _ => by simp)
set_option maxHeartbeats 1000000 in
set_option maxRecDepth 100000 in
theorem ways_any (v u : Value) (l k : List (Int × Int)) (w : World) (hv : PrAt w v l) (hu : PrAt w u k) (hk : k.length ≤ 9223372036854775807) (B : Bool) (hB : B = true ↔ l = k) : Calls Try.prog 20 #[v, u] w fun e w' => e = .returned (.bool B) ∧ Kp [] w w' := by
  obtain ⟨ad, cv, rfl, h1⟩ := hv
  obtain ⟨bd, cu, rfl, h2⟩ := hu
  have H1 := hide h1
  have H2 := hide h2
  have HB := hide hB
  clear h1 h2 hB
  by_cases hlk : l.length = k.length
  · have HN := hide hlk
    rw [hlk]
    clear hlk
    go_enter Try.func20, Try.ntmps20
    go_wp2_with fail
    go_loopw [5] (fun i wr => ∃ t : Nat, t ≤ k.length ∧ i = .int .i64 (t : Int) ∧ Hid (∀ i (h : i < l.length) (h' : i < k.length), i < t → l[i] = k[i]) ∧ Hid (Kp [] w wr)) (fun i _ => k.length - (intOf i).toNat)
    case atStart => exact ⟨0, Nat.zero_le _, rfl, hide (fun i _ _ h => by omega), hide (Kp.refl _ _)⟩
    case round =>
      obtain ⟨t, ht, rfl, HE, HK⟩ := hrel
      by_cases htl : t < k.length
      · have hti : (t : Int) < (k.length : Int) := by omega
        have htl2 : t < l.length := by rw [unhide HN]; exact htl
        obtain ⟨g1, e1, c1, c2⟩ := unhide H1 t htl2
        obtain ⟨g2, e2, c3, c4⟩ := unhide H2 t htl
        obtain rfl := e1
        obtain rfl := e2
        have d1 := (unhide HK).cell c1 (by simp)
        have d2 := (unhide HK).cell c2 (by simp)
        have d3 := (unhide HK).cell c3 (by simp)
        have d4 := (unhide HK).cell c4 (by simp)
        have EQ : ∀ W, (Op.equalIn 10000 41 (.agg #[.int .i64 l[t].1, .int .i64 l[t].2]) (.agg #[.int .i64 k[t].1, .int .i64 k[t].2])).run Try.prog W = .ok (l[t].1 == k[t].1 && l[t].2 == k[t].2) W := fun W => eqP 9998 _ _ _ _ W
        have HQ : Hid ((l[t].1 == k[t].1 && l[t].2 == k[t].2) = true ↔ l[t] = k[t]) := hide (by simp [Prod.ext_iff])
        generalize (l[t].1 == k[t].1 && l[t].2 == k[t].2) = Q at *
        generalize l[t].1 = x1 at *
        generalize l[t].2 = x2 at *
        generalize k[t].1 = x3 at *
        generalize k[t].2 = x4 at *
        clear c1 c2 c3 c4
        cases Q with
        | true =>
          go_wp2_with fail
          go_quiet (fail)
          go_wp2_with fail
          go_roundw
          case rel =>
            refine ⟨t + 1, by omega, by go_num, hide (fun i h h' hi => ?_), hide ((unhide HK).trans (Kp.drewQ _ _) (by simp))⟩
            rcases Nat.lt_or_ge i t with g | g
            · exact unhide HE i h h' g
            · obtain rfl : i = t := by omega
              have := unhide HQ
              simpa using this
          case measure => simp [intOf]; omega
        | false =>
          go_wp2_with fail
          go_quiet (fail)
          go_wp2_with fail
          go_ret
          refine ⟨ret_bool ?_, (unhide HK).trans (Kp.drewQ _ _) (by simp)⟩
          cases B with
          | false => rfl
          | true =>
            have e := (unhide HB).1 rfl
            subst e
            have := (unhide HQ).2 rfl
            cases this
      · obtain rfl : t = k.length := by omega
        have hkk : ¬ (k.length : Int) < (k.length : Int) := by omega
        go_wp2_with fail
        go_ret
        refine ⟨ret_bool ?_, unhide HK⟩
        refine ((unhide HB).2 ?_).symm
        exact List.ext_getElem (unhide HN) (fun i h h' => unhide HE i h h' h')
  · have hli : ¬ (l.length : Int) = (k.length : Int) := by omega
    have HL := hide hlk
    clear hlk
    go_enter Try.func20, Try.ntmps20
    go_wp2_with fail
    go_ret
    refine ⟨ret_bool ?_, Kp.refl _ _⟩
    cases B with
    | false => rfl
    | true => exact absurd (congrArg List.length ((unhide HB).1 rfl)) (unhide HL)
set_option maxHeartbeats 1000000 in
set_option maxRecDepth 100000 in
theorem reverse_any (g n cap : Nat) (f : Nat → Int × Int) (w : World) (h : PrF g n cap f w) (hn : n ≤ 4611686018427387904) : Calls Try.prog 33 #[.slice (some ⟨g, 0, none⟩) n cap] w fun e w' => e = .returned (.tuple #[]) ∧ PrF g n cap (fun i => f (n - 1 - i)) w' ∧ Kp [g] w w' := by
  have HH := hide h
  clear h
  go_enter Try.func33, Try.ntmps33
  go_wp2_with fail
  go_loopw [2, 3] (fun i j wr => ∃ k : Nat, k ≤ n ∧ k * 2 ≤ n + 1 ∧ i = .int .i64 (k : Int) ∧ j = .int .i64 ((n : Int) - 1 - (k : Int)) ∧ Hid (PrF g n cap (fun i => if i < k ∨ n ≤ i + k then f (n - 1 - i) else f i) wr) ∧ Hid (Kp [g] w wr)) (fun i _ _ => n + 1 - (intOf i).toNat)
  case atStart => exact ⟨0, Nat.zero_le _, by omega, rfl, by simp, hide ((unhide HH).ext fun i hi => by rw [if_neg (by omega)]), hide (Kp.refl _ _)⟩
  case round =>
    clear HH
    obtain ⟨k, hk, hk2, rfl, rfl, HP, HK⟩ := hrel
    by_cases hlt : (k : Int) < (n : Int) - 1 - (k : Int)
    · obtain ⟨j, hj⟩ : ∃ j : Nat, j = n - 1 - k := ⟨_, rfl⟩
      have ej : (n : Int) - 1 - (k : Int) = (j : Int) := by omega
      rw [ej] at hlt ⊢
      have hkn : k < n := by omega
      have hjn : j < n := by omega
      have hki : (k : Int) < (n : Int) := by omega
      have hji : (j : Int) < (n : Int) := by omega
      have a1 := (unhide HP).fst k hkn
      have a2 := (unhide HP).snd k hkn
      have a3 := (unhide HP).fst j hjn
      have a4 := (unhide HP).snd j hjn
      rw [if_neg (by omega)] at a1 a2 a3 a4
      have f1 := (unhide HP).froz (k * 2)
      have f2 := (unhide HP).froz (k * 2 + 1)
      have f3 := (unhide HP).froz (j * 2)
      have f4 := (unhide HP).froz (j * 2 + 1)
      have HF : Hid (PrF g n cap (fun i => if i < k + 1 ∨ n ≤ i + (k + 1) then f (n - 1 - i) else f i) (put2 g j (f k) (put2 g k (f j) wr)).drew ∧ Kp [g] w (put2 g j (f k) (put2 g k (f j) wr)).drew) := hide ⟨by
          refine ((((unhide HP).put k hkn (f j)).put j hjn (f k)).kp (Kp.drew _) (by simp)).ext fun i hi => ?_
          by_cases e1 : i = j
          · rw [if_pos e1, if_pos (by omega), e1, show n - 1 - j = k by omega]
          · rw [if_neg e1]
            by_cases e2 : i = k
            · rw [if_pos e2, if_pos (by omega), e2, ← hj]
            · rw [if_neg e2]
              by_cases e3 : i < k ∨ n ≤ i + k
              · rw [if_pos e3, if_pos (by omega)]
              · rw [if_neg e3, if_neg (by omega)], (((unhide HK).trans (Kp.put2 g k (f j) wr) (by simp)).trans (Kp.put2 g j (f k) _) (by simp)).trans (Kp.drew _) (by simp)⟩
      have hw1 : IntKind.i64.wrap ((j : Int) - 1) = (n : Int) - 1 - ((k + 1 : Nat) : Int) := by rw [IntKind.wrap_i64] <;> omega
      have hk3 : (k + 1) * 2 ≤ n + 1 := by omega
      clear HP hj ej
      generalize f k = X at *
      generalize f j = Y at *
      obtain ⟨x1, x2⟩ := X
      obtain ⟨y1, y2⟩ := Y
      go_wp2_with fail
      go_region
      all_goals
        clear a1 a2 a3 a4 f1 f2 f3 f4 HK
        go_wp2_with fail
        go_roundw
        case rel => exact ⟨k + 1, by omega, hk3, by go_num, by first | rfl | (congr 1; omega) | (rw [← hw1]), hide (unhide HF).1, hide (unhide HF).2⟩
        case measure => simp [intOf]; omega
    · go_wp2_with fail
      go_end0
      exact ⟨rfl, (unhide HP).ext fun i hi => by
        by_cases e : i < k ∨ n ≤ i + k
        · rw [if_pos e]
        · rw [if_neg e, show n - 1 - i = i by omega], unhide HK⟩
end Go.Proofs.Ythdfaidjdddagaa
