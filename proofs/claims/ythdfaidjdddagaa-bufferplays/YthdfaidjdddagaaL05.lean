/-
  A buffer, plainly: an entry more; the ways of entries; what each call tells and leaves. Of no program.
-/
import Derived.Test.YthdfaidjdddagaaL02
namespace Go.Proofs.Ythdfaidjdddagaa
open Go.RowKit

/-- One more: its parent has a child more. -/
def adE (c : Nat → Ent) (i : Nat) (s p q : Int) : Nat → Ent :=
  if q = -1 then setE c i ⟨s, p, q, 1, 0⟩ else kdE (setE c i ⟨s, p, q, 1, 0⟩) q.toNat 1
/-- A parent that may have such a child: none, or one that is there. -/
def ParOk (c : Nat → Ent) (s p q : Int) : Prop := q = -1 ∨ ∃ j : Nat, q = (j : Int) ∧ j < 4096 ∧ lvE (c j) = true ∧ (c j).s ≤ s ∧ (c j).p < p
theorem BIv.add {c : Nat → Ent} {i m : Nat} {B : Int} {s p q : Int} (h : BIv c (-1) m B) (hB : 0 ≤ B) (hr : 0 ≤ s ∧ s < 8 ∧ 0 ≤ p ∧ p ≤ 1073741824) (hq : ParOk c s p q)
    (hno : ∀ j, j < 4096 → lvE (c j) = true → ¬ ((c j).s = s ∧ (c j).p = p ∧ (c j).q = q)) (hi : i < 4096) (hv : lvE (c i) = false) : BIv (adE c i s p q) (-1) (m + 1) (B + 1) := by
  have hzi : c i = zeE := h.zero i hi (by rw [prE_neg]; exact hv)
  have hnp : ∀ a, a < 4096 → lvE (c a) = true → (c a).q ≠ (i : Int) := fun a ha hl he => by
    rcases h.par a ha (by rw [prE_neg]; exact hl) with k1 | ⟨b, k1, k2, k3, _⟩
    · omega
    · have : b = i := by omega
      subst this
      rw [hzi] at k3
      exact absurd k3 (by decide)
  have hqi : q ≠ (i : Int) := fun e => by
    rcases hq with h1 | ⟨j, h1, h2, h3, _⟩
    · omega
    · have : j = i := by omega
      subst this
      rw [hv] at h3; cases h3
  -- what the new entries are
  have vi : adE c i s p q i = ⟨s, p, q, 1, 0⟩ := by
    unfold adE
    split
    · exact setE_same _ _ _
    · rename_i hq1
      unfold kdE
      rw [setE_ne _ _ (fun e => ?_), setE_same]
      rcases hq with h1 | ⟨j, h1, h2, _⟩
      · exact hq1 h1
      · omega
  have vs : ∀ a, a ≠ i → (adE c i s p q a).s = (c a).s ∧ (adE c i s p q a).p = (c a).p ∧ (adE c i s p q a).q = (c a).q ∧ (adE c i s p q a).h = (c a).h := fun a ha => by
    unfold adE
    split
    · rw [setE_ne _ _ ha]; exact ⟨rfl, rfl, rfl, rfl⟩
    · unfold kdE
      by_cases e : a = q.toNat
      · rw [e, setE_same, setE_ne _ _ (by rw [← e]; exact ha)]; exact ⟨rfl, rfl, rfl, rfl⟩
      · rw [setE_ne _ _ e, setE_ne _ _ ha]; exact ⟨rfl, rfl, rfl, rfl⟩
  have vk : ∀ a : Nat, a ≠ i → (adE c i s p q a).k = (c a).k + (if q = (a : Int) then 1 else 0) := fun a ha => by
    unfold adE
    split
    · rename_i h1
      rw [setE_ne _ _ ha, if_neg (by omega)]; omega
    · rename_i h1
      unfold kdE
      by_cases e : a = q.toNat
      · have : q = (a : Int) := by
          rcases hq with h2 | ⟨j, h2, _⟩
          · exact absurd h2 h1
          · omega
        rw [e, setE_same, setE_ne _ _ (by rw [← e]; exact ha), ← e, if_pos this]
      · rw [setE_ne _ _ e, setE_ne _ _ ha, if_neg (by omega)]; omega
  generalize adE c i s p q = d at vi vs vk
  have kn : ∀ a, a < 4096 → a ≠ i → (c a).k ≤ (d a).k := fun a _ ha => by rw [vk a ha]; split <;> omega
  have hpi : lvE (d i) = true := by rw [vi]; rfl
  have hpr : ∀ a, a < 4096 → a ≠ i → lvE (d a) = lvE (c a) := fun a ha hn => by
    rw [Bool.eq_iff_iff, lvE_iff, lvE_iff, (vs a hn).2.2.2, vk a hn]
    by_cases e : q = (a : Int)
    · rw [if_pos e]
      rcases hq with h1 | ⟨j, h1, h2, h3, _⟩
      · omega
      · have : j = a := by omega
        subst this
        rw [lvE_iff] at h3
        omega
    · rw [if_neg e]; omega
  refine ⟨fun a ha hn => ?_, fun a ha => ?_, fun a ha => ?_, fun a ha hn => ?_, fun a ha hn => ?_, fun a ha => ?_, fun a b ha hb k1 k2 k3 k4 k5 => ?_, ?_, Or.inl rfl⟩
  · rw [prE_neg] at hn
    by_cases e : a = i
    · subst e; rw [hpi] at hn; cases hn
    · rw [hpr a ha e] at hn
      have hz := h.zero a ha (by rw [prE_neg]; exact hn)
      have hqa : q ≠ (a : Int) := fun e2 => by
        rcases hq with h1 | ⟨j, h1, h2, h3, _⟩
        · omega
        · have : j = a := by omega
          subst this
          rw [hn] at h3; cases h3
      rw [← hz]
      obtain ⟨g1, g2, g3, g4⟩ := vs a e
      exact Ent.ext' g1 g2 g3 g4 (by rw [vk a e, if_neg hqa]; omega)
  · by_cases e : a = i
    · subst e; rw [vi]; exact ⟨Int.le.intro 1 rfl, Int.le_refl _⟩
    · rw [(vs a e).2.2.2]
      have := h.low a ha
      have := kn a ha e
      omega
  · by_cases e : a = i
    · subst e; rw [vi]; show (1 : Int) ≤ B + 1; omega
    · rw [(vs a e).2.2.2]
      have := h.top a ha
      omega
  · rw [prE_neg] at hn
    by_cases e : a = i
    · subst e
      rw [vi]
      rcases hq with h1 | ⟨j, h1, h2, h3, h4, h5⟩
      · exact Or.inl h1
      · have hj : j ≠ a := fun e2 => hqi (by rw [h1, e2])
        refine Or.inr ⟨j, h1, h2, ?_, by rw [(vs j hj).1]; exact h4, by rw [(vs j hj).2.1]; exact h5⟩
        rw [vk j hj, if_pos h1]
        have := (h.low j h2).2
        omega
    · rw [hpr a ha e] at hn
      rw [(vs a e).1, (vs a e).2.1, (vs a e).2.2.1]
      rcases h.par a ha (by rw [prE_neg]; exact hn) with k1 | ⟨b, k1, k2, k3, k4, k5⟩
      · exact Or.inl k1
      · have hbi : b ≠ i := fun e2 => hnp a ha hn (by rw [k1, e2])
        have := kn b k2 hbi
        exact Or.inr ⟨b, k1, k2, by omega, by rw [(vs b hbi).1]; exact k4, by rw [(vs b hbi).2.1]; exact k5⟩
  · rw [prE_neg] at hn
    by_cases e : a = i
    · subst e; rw [vi]; exact hr
    · rw [hpr a ha e] at hn
      rw [(vs a e).1, (vs a e).2.1]
      exact h.rng a ha (by rw [prE_neg]; exact hn)
  · have hq2 : ∀ b, b < 4096 → b ≠ i → (prE d (-1) b && decide ((d b).q = (a : Int))) = (prE c (-1) b && decide ((c b).q = (a : Int))) := fun b hb hn => by
      rw [prE_neg, prE_neg, hpr b hb hn, (vs b hn).2.2.1]
    have e1 := cnt_set (f := fun b => prE c (-1) b && decide ((c b).q = (a : Int))) (g := fun b => prE d (-1) b && decide ((d b).q = (a : Int))) hi fun b hb hn => (hq2 b hb hn).symm
    have hli : lvE (⟨s, p, q, 1, 0⟩ : Ent) = true := rfl
    simp only [prE_neg, hv, hli, vi, Bool.false_and, Bool.true_and] at e1
    rw [if_neg (by simp) (c := false = true)] at e1
    have e3 : (cnt (fun b => lvE (d b) && decide ((d b).q = (a : Int))) 4096 : Nat) = cnt (fun b => prE d (-1) b && decide ((d b).q = (a : Int))) 4096 := cnt_congr fun b _ => by rw [prE_neg]
    have e4 : (cnt (fun b => lvE (c b) && decide ((c b).q = (a : Int))) 4096 : Nat) = cnt (fun b => prE c (-1) b && decide ((c b).q = (a : Int))) 4096 := cnt_congr fun b _ => by rw [prE_neg]
    have e2 := h.kids a ha
    by_cases e : a = i
    · subst e
      rw [vi]
      rw [if_neg (by simpa using hqi)] at e1
      rw [hzi] at e2
      have e5 : zeE.k = 0 := rfl
      rw [e5] at e2
      show (0 : Int) = _
      omega
    · rw [vk a e]
      by_cases e5 : q = (a : Int)
      · rw [if_pos e5]
        rw [if_pos (by simpa using e5)] at e1
        omega
      · rw [if_neg e5]
        rw [if_neg (by simpa using e5)] at e1
        omega
  · rw [prE_neg] at k1 k2
    by_cases ea : a = i
    · by_cases eb : b = i
      · rw [ea, eb]
      · subst ea
        rw [vi] at k3 k4 k5
        rw [(vs b eb).1] at k3
        rw [(vs b eb).2.1] at k4
        rw [(vs b eb).2.2.1] at k5
        rw [hpr b hb eb] at k2
        exact absurd ⟨k3.symm, k4.symm, k5.symm⟩ (hno b hb k2)
    · by_cases eb : b = i
      · subst eb
        rw [vi] at k3 k4 k5
        rw [(vs a ea).1] at k3
        rw [(vs a ea).2.1] at k4
        rw [(vs a ea).2.2.1] at k5
        rw [hpr a ha ea] at k1
        exact absurd ⟨k3, k4, k5⟩ (hno a ha k1)
      · rw [hpr a ha ea] at k1
        rw [hpr b hb eb] at k2
        rw [(vs a ea).1, (vs b eb).1] at k3
        rw [(vs a ea).2.1, (vs b eb).2.1] at k4
        rw [(vs a ea).2.2.1, (vs b eb).2.2.1] at k5
        exact h.one a b ha hb (by rw [prE_neg]; exact k1) (by rw [prE_neg]; exact k2) k3 k4 k5
  · have := cnt_set (f := prE c (-1)) (g := prE d (-1)) hi fun a ha hn => by rw [prE_neg, prE_neg, hpr a ha hn]
    rw [prE_neg, prE_neg, hv, hpi, if_pos rfl, if_neg (by simp)] at this
    have e := h.many
    omega

/-- The way of an entry: of each its stage and its place, from the first on. -/
inductive IsWay (c : Nat → Ent) : Int → List (Int × Int) → Prop
  | none : IsWay c (-1) []
  | some (i : Nat) (l : List (Int × Int)) : i < 4096 → lvE (c i) = true → IsWay c (c i).q l → IsWay c (i : Int) (l ++ [((c i).s, (c i).p)])
theorem IsWay.one {c : Nat → Ent} {q : Int} {l l' : List (Int × Int)} (h : IsWay c q l) (h' : IsWay c q l') : l = l' := by
  induction h generalizing l' with
  | none =>
    generalize hq : (-1 : Int) = q at h'
    cases h' with
    | none => rfl
    | some i l hi => omega
  | some i l hi hv hw ih =>
    generalize hq : (i : Int) = q at h'
    cases h' with
    | none => omega
    | some j l2 hj hv2 hw2 =>
      obtain rfl : i = j := by omega
      rw [ih hw2]
/-- What was there, and is there still as it was, has its way still. -/
theorem IsWay.stays {c d : Nat → Ent} {q : Int} {l : List (Int × Int)} (h : IsWay c q l) (hd : ∀ i, i < 4096 → lvE (c i) = true → lvE (d i) = true → (d i).s = (c i).s ∧ (d i).p = (c i).p ∧ (d i).q = (c i).q)
    (hq : ∀ i : Nat, q = (i : Int) → i < 4096 → lvE (d i) = true) (hp : ∀ i, i < 4096 → lvE (d i) = true → (d i).q = -1 ∨ ∃ j : Nat, (d i).q = (j : Int) ∧ j < 4096 ∧ lvE (d j) = true) : IsWay d q l := by
  induction h with
  | none => exact IsWay.none
  | some i l hi hv hw ih =>
    have hvd := hq i rfl hi
    obtain ⟨e1, e2, e3⟩ := hd i hi hv hvd
    rw [← e1, ← e2]
    refine IsWay.some i l hi hvd ?_
    rw [e3]
    refine ih fun j hj hjl => ?_
    rcases hp i hi hvd with h1 | ⟨k, h1, h2, h3⟩
    · rw [e3] at h1; omega
    · obtain rfl : j = k := by rw [e3] at h1; omega
      exact h3
theorem IsWay.ne {c : Nat → Ent} {i : Nat} {l : List (Int × Int)} (h : IsWay c (i : Int) l) : l ≠ [] := by
  generalize hq : (i : Int) = q at h
  cases h with
  | none => omega
  | some => simp
/-- Every entry has a way. -/
theorem BIv.way {c : Nat → Ent} {m : Nat} {B : Int} (h : BIv c (-1) m B) (n : Nat) : ∀ i, i < 4096 → lvE (c i) = true → (c i).p < (n : Int) → ∃ l, IsWay c (i : Int) l := by
  induction n with
  | zero => intro i hi hv hn; have := (h.rng i hi (prE_lv _ hv)).2.2.1; omega
  | succ n ih =>
    intro i hi hv hn
    rcases h.par i hi (prE_lv _ hv) with h1 | ⟨j, h1, h2, h3, _, h5⟩
    · exact ⟨_, IsWay.some i [] hi hv (by rw [h1]; exact IsWay.none)⟩
    · obtain ⟨l, hl⟩ := ih j h2 (lv_kids h h2 h3) (by omega)
      exact ⟨_, IsWay.some i l hi hv (by rw [h1]; exact hl)⟩
/-- What Put tells and leaves. -/
inductive PutR (c : Nat → Ent) (m : Nat) (s p q : Int) : Int → Int → (Nat → Ent) → Nat → Prop
  | range : ¬ (0 ≤ s ∧ s < 8 ∧ 0 ≤ p ∧ p ≤ 1073741824) → PutR c m s p q 0 1 c m
  | ref : (0 ≤ s ∧ s < 8 ∧ 0 ≤ p ∧ p ≤ 1073741824) → q ≠ -1 → (∀ j : Nat, q = (j : Int) → j < 4096 → lvE (c j) = false) → PutR c m s p q 0 160 c m
  | bad (j : Nat) : (0 ≤ s ∧ s < 8 ∧ 0 ≤ p ∧ p ≤ 1073741824) → q = (j : Int) → j < 4096 → lvE (c j) = true → ¬ ((c j).s ≤ s ∧ (c j).p < p) → PutR c m s p q 0 1 c m
  | again (i : Nat) : (0 ≤ s ∧ s < 8 ∧ 0 ≤ p ∧ p ≤ 1073741824) → ParOk c s p q → i < 4096 → lvE (c i) = true → ((c i).s = s ∧ (c i).p = p ∧ (c i).q = q) → PutR c m s p q (i : Int) 0 (hoE c i) m
  | full : (0 ≤ s ∧ s < 8 ∧ 0 ≤ p ∧ p ≤ 1073741824) → ParOk c s p q → (∀ j, j < 4096 → lvE (c j) = true → ¬ ((c j).s = s ∧ (c j).p = p ∧ (c j).q = q)) → m = 4096 → PutR c m s p q 0 2 c m
  | more (i : Nat) : (0 ≤ s ∧ s < 8 ∧ 0 ≤ p ∧ p ≤ 1073741824) → ParOk c s p q → (∀ j, j < 4096 → lvE (c j) = true → ¬ ((c j).s = s ∧ (c j).p = p ∧ (c j).q = q)) → m < 4096 → i < 4096 → lvE (c i) = false → (∀ j, j < i → lvE (c j) = true) → PutR c m s p q (i : Int) 0 (adE c i s p q) (m + 1)
theorem PutR.iv {c d : Nat → Ent} {m n : Nat} {s p q id e : Int} {B : Int} (h : PutR c m s p q id e d n) (hI : BIv c (-1) m B) (hB : 0 ≤ B) : BIv d (-1) n (B + 1) := by
  cases h with
  | range => exact hI.up (by omega)
  | ref => exact hI.up (by omega)
  | bad => exact hI.up (by omega)
  | again i _ _ hi hv _ => exact hI.hold hi hv
  | full => exact hI.up (by omega)
  | more i hr hq hno _ hi hv _ => exact hI.add hB hr hq hno hi hv
theorem ParOk.ref {c : Nat → Ent} {s p q : Int} (h : ParOk c s p q) (h1 : q ≠ -1) (h2 : ∀ j : Nat, q = (j : Int) → j < 4096 → lvE (c j) = false) : False := by
  rcases h with h | ⟨j, e, hj, hv, _⟩
  · exact h1 h
  · rw [h2 j e hj] at hv; cases hv
theorem ParOk.bad {c : Nat → Ent} {s p q : Int} (h : ParOk c s p q) {j : Nat} (h1 : q = (j : Int)) (h3 : ¬ ((c j).s ≤ s ∧ (c j).p < p)) : False := by
  rcases h with h | ⟨k, e, hj, hv, a⟩
  · omega
  · obtain rfl : k = j := by omega
    exact h3 a
/-- What Put tells and leaves is one. -/
theorem PutR.one {c d d' : Nat → Ent} {m n n' : Nat} {s p q id id' e e' : Int} {B : Int} (h : PutR c m s p q id e d n) (h' : PutR c m s p q id' e' d' n') (hI : BIv c (-1) m B) : id = id' ∧ e = e' ∧ d = d' ∧ n = n' := by
  cases h with
  | range a =>
    cases h' with
    | range => exact ⟨rfl, rfl, rfl, rfl⟩
    | ref b => exact absurd b a
    | bad _ b => exact absurd b a
    | again _ b => exact absurd b a
    | full b => exact absurd b a
    | more _ b => exact absurd b a
  | ref a a1 a2 =>
    cases h' with
    | range b => exact absurd a b
    | ref => exact ⟨rfl, rfl, rfl, rfl⟩
    | bad j _ b1 b2 b3 => rw [a2 j b1 b2] at b3; cases b3
    | again _ _ b => exact (b.ref a1 a2).elim
    | full _ b => exact (b.ref a1 a2).elim
    | more _ _ b => exact (b.ref a1 a2).elim
  | bad j a a1 a2 a3 a4 =>
    cases h' with
    | range b => exact absurd a b
    | ref _ b1 b2 => rw [b2 j a1 a2] at a3; cases a3
    | bad => exact ⟨rfl, rfl, rfl, rfl⟩
    | again _ _ b => exact (b.bad a1 a4).elim
    | full _ b => exact (b.bad a1 a4).elim
    | more _ _ b => exact (b.bad a1 a4).elim
  | again i a a1 a2 a3 a4 =>
    cases h' with
    | range b => exact absurd a b
    | ref _ b1 b2 => exact (a1.ref b1 b2).elim
    | bad j _ b1 _ _ b4 => exact (a1.bad b1 b4).elim
    | again j _ _ b2 b3 b4 =>
      obtain rfl : i = j := hI.one i j a2 b2 (prE_lv _ a3) (prE_lv _ b3) (by rw [a4.1, b4.1]) (by rw [a4.2.1, b4.2.1]) (by rw [a4.2.2, b4.2.2])
      exact ⟨rfl, rfl, rfl, rfl⟩
    | full _ _ b => exact absurd a4 (b i a2 a3)
    | more _ _ _ b => exact absurd a4 (b i a2 a3)
  | full a a1 a2 a3 =>
    cases h' with
    | range b => exact absurd a b
    | ref _ b1 b2 => exact (a1.ref b1 b2).elim
    | bad j _ b1 _ _ b4 => exact (a1.bad b1 b4).elim
    | again j _ _ b2 b3 b4 => exact absurd b4 (a2 j b2 b3)
    | full => exact ⟨rfl, rfl, rfl, rfl⟩
    | more _ _ _ _ b => omega
  | more i a a1 a2 a3 a4 a5 a6 =>
    cases h' with
    | range b => exact absurd a b
    | ref _ b1 b2 => exact (a1.ref b1 b2).elim
    | bad j _ b1 _ _ b4 => exact (a1.bad b1 b4).elim
    | again j _ _ b2 b3 b4 => exact absurd b4 (a2 j b2 b3)
    | full _ _ _ b => omega
    | more j _ _ _ _ b4 b5 b6 =>
      have : i = j := by
        rcases Nat.lt_trichotomy i j with g | g | g
        · rw [b6 i g] at a5; cases a5
        · exact g
        · rw [a6 j g] at b5; cases b5
      subst this
      exact ⟨rfl, rfl, rfl, rfl⟩
/-- What is taken away, one behind the other. -/
inductive Swp : (Nat → Ent) → Int → Nat → (Nat → Ent) → Prop
  | none (c : Nat → Ent) : Swp c (-1) 0 c
  | there (c : Nat → Ent) (i : Nat) : lvE (c i) = true → Swp c (i : Int) 0 c
  | step (c d : Nat → Ent) (i n : Nat) : lvE (c i) = false → Swp (rmE c i) (c i).q n d → Swp c (i : Int) (n + 1) d
theorem Swp.one {c d d' : Nat → Ent} {q : Int} {n n' : Nat} (h : Swp c q n d) (h' : Swp c q n' d') : n = n' ∧ d = d' := by
  induction h generalizing n' d' with
  | none c =>
    generalize hq : (-1 : Int) = q at h'
    cases h' with
    | none => exact ⟨rfl, rfl⟩
    | there i => omega
    | step i => omega
  | there c i hv =>
    generalize hq : (i : Int) = q at h'
    cases h' with
    | none => omega
    | there => exact ⟨rfl, rfl⟩
    | step _ _ j _ hv2 =>
      obtain rfl : i = j := by omega
      rw [hv] at hv2; cases hv2
  | step c d i n hv hs ih =>
    generalize hq : (i : Int) = q at h'
    cases h' with
    | none => omega
    | there _ j hv2 =>
      obtain rfl : i = j := by omega
      rw [hv] at hv2; cases hv2
    | step _ d2 j n2 hv2 hs2 =>
      obtain rfl : i = j := by omega
      obtain ⟨e1, e2⟩ := ih hs2
      exact ⟨by rw [e1], e2⟩
end Go.Proofs.Ythdfaidjdddagaa
