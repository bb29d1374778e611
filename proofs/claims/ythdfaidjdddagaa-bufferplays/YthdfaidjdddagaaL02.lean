/-
  A buffer, plainly: entries by their numbers, what is there, how many; what holds of them; what each call does. Of no program.
-/
import Derived.WalkKit
namespace Go.Proofs.Ythdfaidjdddagaa
open Go.RowKit

/-- How many of the first n. -/
def cnt (f : Nat → Bool) : Nat → Nat
  | 0 => 0
  | n + 1 => cnt f n + (if f n = true then 1 else 0)
theorem cnt_le (f : Nat → Bool) (n : Nat) : cnt f n ≤ n := by
  induction n with
  | zero => exact Nat.le_refl _
  | succ n ih => unfold cnt; split <;> omega
theorem cnt_one (f : Nat → Bool) (n : Nat) : cnt f (n + 1) = cnt f n + (if f n = true then 1 else 0) := rfl
theorem cnt_mono (f : Nat → Bool) {n m : Nat} (h : n ≤ m) : cnt f n ≤ cnt f m := by
  induction m with
  | zero => obtain rfl : n = 0 := by omega
            exact Nat.le_refl _
  | succ m ih =>
    rcases Nat.lt_or_ge m n with h1 | h1
    · obtain rfl : n = m + 1 := by omega
      exact Nat.le_refl _
    · have := ih h1
      rw [cnt_one]
      omega
theorem cnt_congr {f g : Nat → Bool} {n : Nat} (h : ∀ i, i < n → f i = g i) : cnt f n = cnt g n := by
  induction n with
  | zero => rfl
  | succ n ih => unfold cnt; rw [ih fun i hi => h i (by omega), h n (by omega)]
/-- One more, or one less. -/
theorem cnt_set {f g : Nat → Bool} {n i : Nat} (hi : i < n) (h : ∀ j, j < n → j ≠ i → f j = g j) : cnt f n + (if g i = true then 1 else 0) = cnt g n + (if f i = true then 1 else 0) := by
  induction n with
  | zero => omega
  | succ n ih =>
    unfold cnt
    rcases Nat.lt_or_ge i n with h1 | h1
    · have e1 := ih h1 fun j hj hn => h j (by omega) hn
      rw [h n (by omega) (by omega)]
      omega
    · obtain rfl : i = n := by omega
      rw [cnt_congr (f := f) (g := g) (n := i) fun j hj => h j (by omega) (by omega)]
      omega
theorem cnt_zero {f : Nat → Bool} {n : Nat} (h : ∀ i, i < n → f i = false) : cnt f n = 0 := by
  induction n with
  | zero => rfl
  | succ n ih => unfold cnt; rw [ih fun i hi => h i (by omega), h n (by omega)]; rfl
theorem cnt_pos {f : Nat → Bool} {n i : Nat} (hi : i < n) (h : f i = true) : 0 < cnt f n := by
  have := cnt_mono f (show i + 1 ≤ n from hi)
  rw [cnt_one, if_pos h] at this
  omega
theorem cnt_none {f : Nat → Bool} {n : Nat} (h : cnt f n = 0) (i : Nat) (hi : i < n) : f i = false := by
  cases e : f i with
  | false => rfl
  | true => have := cnt_pos hi e; omega
theorem cnt_all {f : Nat → Bool} {n : Nat} (h : ∀ i, i < n → f i = true) : cnt f n = n := by
  induction n with
  | zero => rfl
  | succ n ih => unfold cnt; rw [ih fun i hi => h i (by omega), if_pos (h n (by omega))]
theorem cnt_lt {f : Nat → Bool} {n : Nat} (h : cnt f n < n) : ∃ i, i < n ∧ f i = false := by
  rcases Classical.em (∃ i, i < n ∧ f i = false) with h1 | h1
  · exact h1
  · exfalso
    rw [cnt_all (n := n) fun i hi => by
      cases e : f i with
      | true => rfl
      | false => exact absurd ⟨i, hi, e⟩ h1] at h
    omega
/-- Where all lie ahead of a place none lies from there on. -/
theorem cnt_same {f : Nat → Bool} {n m : Nat} (h : cnt f n = cnt f m) (i : Nat) (h1 : n ≤ i) (h2 : i < m) : f i = false := by
  cases e : f i with
  | false => rfl
  | true =>
    have a := cnt_mono f h1
    have b := cnt_mono f (show i + 1 ≤ m from h2)
    rw [cnt_one, if_pos e] at b
    omega
/-- The first one for which it does not hold. -/
theorem cnt_first {f : Nat → Bool} {n : Nat} (h : cnt f n < n) : ∃ i, i < n ∧ f i = false ∧ ∀ j, j < i → f j = true := by
  obtain ⟨i, hi, hf⟩ := cnt_lt h
  clear h
  induction i using Nat.strongRecOn with
  | _ i ih =>
    rcases Classical.em (∃ j, j < i ∧ f j = false) with ⟨j, hj, hfj⟩ | h1
    · exact ih j hj (by omega) hfj
    · exact ⟨i, hi, hf, fun j hj => by
        cases e : f j with
        | true => rfl
        | false => exact absurd ⟨j, hj, e⟩ h1⟩

/-- An entry: its stage, its place, its parent, how often it is held, and of how many it is the parent. -/
structure Ent where
  s : Int
  p : Int
  q : Int
  h : Int
  k : Int
theorem Ent.ext' {a b : Ent} (h1 : a.s = b.s) (h2 : a.p = b.p) (h3 : a.q = b.q) (h4 : a.h = b.h) (h5 : a.k = b.k) : a = b := by
  cases a; cases b; simp at *; exact ⟨h1, h2, h3, h4, h5⟩
def zeE : Ent := ⟨0, 0, 0, 0, 0⟩
/-- Is it there? -/
def lvE (e : Ent) : Bool := decide (0 < e.h + e.k)
theorem lvE_iff (e : Ent) : lvE e = true ↔ 0 < e.h + e.k := by simp [lvE]
theorem lvE_not (e : Ent) : lvE e = false ↔ ¬ 0 < e.h + e.k := by simp [lvE]
def setE (c : Nat → Ent) (i : Nat) (e : Ent) : Nat → Ent := fun j => if j = i then e else c j
theorem setE_same (c : Nat → Ent) (i : Nat) (e : Ent) : setE c i e i = e := by simp [setE]
theorem setE_ne (c : Nat → Ent) {i j : Nat} (e : Ent) (h : j ≠ i) : setE c i e j = c j := by simp [setE, h]
/-- There, or just being taken away. -/
def prE (c : Nat → Ent) (x : Int) (i : Nat) : Bool := lvE (c i) || decide ((i : Int) = x)
theorem prE_neg (c : Nat → Ent) (i : Nat) : prE c (-1) i = lvE (c i) := by
  have : ¬ ((i : Int) = -1) := by omega
  simp [prE, this]
theorem prE_ne (c : Nat → Ent) (x : Int) (i : Nat) (h : (i : Int) ≠ x) : prE c x i = lvE (c i) := by simp [prE, h]
theorem prE_self (c : Nat → Ent) (i : Nat) : prE c (i : Int) i = true := by simp [prE]
theorem prE_lv {c : Nat → Ent} {i : Nat} (x : Int) (h : lvE (c i) = true) : prE c x i = true := by simp [prE, h]

/-- What holds of a buffer's entries: x is one that is just being taken away, or -1. -/
structure BIv (c : Nat → Ent) (x : Int) (m : Nat) (B : Int) : Prop where
  zero : ∀ i, i < 4096 → prE c x i = false → c i = zeE
  low : ∀ i, i < 4096 → 0 ≤ (c i).h ∧ 0 ≤ (c i).k
  top : ∀ i, i < 4096 → (c i).h ≤ B
  par : ∀ i, i < 4096 → prE c x i = true → (c i).q = -1 ∨ ∃ j : Nat, (c i).q = (j : Int) ∧ j < 4096 ∧ 0 < (c j).k ∧ (c j).s ≤ (c i).s ∧ (c j).p < (c i).p
  rng : ∀ i, i < 4096 → prE c x i = true → 0 ≤ (c i).s ∧ (c i).s < 8 ∧ 0 ≤ (c i).p ∧ (c i).p ≤ 1073741824
  kids : ∀ i, i < 4096 → (c i).k = (cnt (fun j => prE c x j && decide ((c j).q = (i : Int))) 4096 : Nat)
  one : ∀ i j, i < 4096 → j < 4096 → prE c x i = true → prE c x j = true → (c i).s = (c j).s → (c i).p = (c j).p → (c i).q = (c j).q → i = j
  many : m = cnt (prE c x) 4096
  xs : x = -1 ∨ ∃ j : Nat, x = (j : Int) ∧ j < 4096
theorem BIv.kle {c : Nat → Ent} {x : Int} {m : Nat} {B : Int} (h : BIv c x m B) (i : Nat) (hi : i < 4096) : (c i).k ≤ 4096 := by
  rw [h.kids i hi]
  exact Int.ofNat_le.2 (cnt_le _ _)
theorem BIv.mle {c : Nat → Ent} {x : Int} {m : Nat} {B : Int} (h : BIv c x m B) : m ≤ 4096 := by
  rw [h.many]; exact cnt_le _ _
theorem BIv.up {c : Nat → Ent} {x : Int} {m : Nat} {B B' : Int} (h : BIv c x m B) (hB : B ≤ B') : BIv c x m B' :=
  ⟨h.zero, h.low, fun i hi => Int.le_trans (h.top i hi) hB, h.par, h.rng, h.kids, h.one, h.many, h.xs⟩
/-- One with kids is there. -/
theorem lv_kids {c : Nat → Ent} {x : Int} {m : Nat} {B : Int} (h : BIv c x m B) {j : Nat} (hj : j < 4096) (hk : 0 < (c j).k) : lvE (c j) = true := by
  rw [lvE_iff]; have := (h.low j hj).1; omega
theorem BIv.empty : BIv (fun _ => zeE) (-1) 0 0 where
  zero := fun _ _ _ => rfl
  low := fun _ _ => ⟨Int.le_refl _, Int.le_refl _⟩
  top := fun _ _ => Int.le_refl _
  par := fun i _ h => by rw [prE_neg] at h; simp [lvE, zeE] at h
  rng := fun i _ h => by rw [prE_neg] at h; simp [lvE, zeE] at h
  kids := fun i _ => by rw [cnt_zero fun j _ => by rw [prE_neg]; simp [lvE, zeE]]; rfl
  one := fun i j _ _ h => by rw [prE_neg] at h; simp [lvE, zeE] at h
  many := by rw [cnt_zero fun j _ => by rw [prE_neg]; simp [lvE, zeE]]
  xs := Or.inl rfl
/-- Where only holds change, and the same are there. -/
theorem BIv.holds {c d : Nat → Ent} {x y : Int} {m : Nat} {B B' : Int} (h : BIv c x m B)
    (hs : ∀ i, i < 4096 → (d i).s = (c i).s ∧ (d i).p = (c i).p ∧ (d i).q = (c i).q ∧ (d i).k = (c i).k)
    (hp : ∀ i, i < 4096 → prE d y i = prE c x i) (hz : ∀ i, i < 4096 → prE c x i = false → (d i).h = (c i).h)
    (hl : ∀ i, i < 4096 → 0 ≤ (d i).h ∧ (d i).h ≤ B') (hy : y = -1 ∨ ∃ j : Nat, y = (j : Int) ∧ j < 4096) : BIv d y m B' where
  zero := fun i hi hn => by
    rw [hp i hi] at hn
    obtain ⟨a, b, e, f⟩ := hs i hi
    rw [← h.zero i hi hn]
    exact Ent.ext' a b e (hz i hi hn) f
  low := fun i hi => ⟨(hl i hi).1, by rw [(hs i hi).2.2.2]; exact (h.low i hi).2⟩
  top := fun i hi => (hl i hi).2
  par := fun i hi hn => by
    rw [hp i hi] at hn
    obtain ⟨a, b, e, f⟩ := hs i hi
    rw [e, a, b]
    rcases h.par i hi hn with h1 | ⟨j, h1, h2, h3, h4, h5⟩
    · exact Or.inl h1
    · obtain ⟨a', b', e', f'⟩ := hs j h2
      exact Or.inr ⟨j, h1, h2, by rw [f']; exact h3, by rw [a']; exact h4, by rw [b']; exact h5⟩
  rng := fun i hi hn => by
    rw [hp i hi] at hn
    obtain ⟨a, b, e, f⟩ := hs i hi
    rw [a, b]
    exact h.rng i hi hn
  kids := fun i hi => by
    rw [(hs i hi).2.2.2, h.kids i hi]
    refine congrArg Int.ofNat (cnt_congr fun j hj => ?_)
    rw [hp j hj, (hs j hj).2.2.1]
  one := fun i j hi hj h1 h2 h3 h4 h5 => by
    rw [hp i hi] at h1
    rw [hp j hj] at h2
    obtain ⟨a, b, e, _⟩ := hs i hi
    obtain ⟨a', b', e', _⟩ := hs j hj
    exact h.one i j hi hj h1 h2 (by rw [← a, ← a', h3]) (by rw [← b, ← b', h4]) (by rw [← e, ← e', h5])
  many := by rw [h.many]; exact cnt_congr fun j hj => (hp j hj).symm
  xs := hy
/-- Held once more. -/
def hoE (c : Nat → Ent) (i : Nat) : Nat → Ent := setE c i ⟨(c i).s, (c i).p, (c i).q, (c i).h + 1, (c i).k⟩
theorem BIv.hold {c : Nat → Ent} {m : Nat} {B : Int} (h : BIv c (-1) m B) {i : Nat} (hi : i < 4096) (hv : lvE (c i) = true) : BIv (hoE c i) (-1) m (B + 1) := by
  refine h.holds (fun j hj => ?_) (fun j hj => ?_) (fun j hj hn => ?_) (fun j hj => ?_) (Or.inl rfl)
  · unfold hoE
    by_cases e : j = i
    · subst e; rw [setE_same]; exact ⟨rfl, rfl, rfl, rfl⟩
    · rw [setE_ne _ _ e]; exact ⟨rfl, rfl, rfl, rfl⟩
  · rw [prE_neg, prE_neg]
    unfold hoE
    by_cases e : j = i
    · subst e
      rw [setE_same, hv, lvE_iff]
      rw [lvE_iff] at hv
      show 0 < (c j).h + 1 + (c j).k
      omega
    · rw [setE_ne _ _ e]
  · rw [prE_neg] at hn
    unfold hoE
    by_cases e : j = i
    · subst e; rw [hv] at hn; cases hn
    · rw [setE_ne _ _ e]
  · have a := (h.low j hj).1
    have b := h.top j hj
    unfold hoE
    by_cases e : j = i
    · subst e
      rw [setE_same]
      show 0 ≤ (c j).h + 1 ∧ (c j).h + 1 ≤ B + 1
      omega
    · rw [setE_ne _ _ e]; omega
/-- Let go once. -/
def lgE (c : Nat → Ent) (i : Nat) : Nat → Ent := setE c i ⟨(c i).s, (c i).p, (c i).q, (c i).h - 1, (c i).k⟩
theorem BIv.letGo {c : Nat → Ent} {m : Nat} {B : Int} (h : BIv c (-1) m B) {i : Nat} (hi : i < 4096) (hv : 0 < (c i).h) : BIv (lgE c i) (i : Int) m B := by
  have hlv : lvE (c i) = true := by rw [lvE_iff]; have := (h.low i hi).2; omega
  refine h.holds (fun j hj => ?_) (fun j hj => ?_) (fun j hj hn => ?_) (fun j hj => ?_) (Or.inr ⟨i, rfl, hi⟩)
  · unfold lgE
    by_cases e : j = i
    · subst e; rw [setE_same]; exact ⟨rfl, rfl, rfl, rfl⟩
    · rw [setE_ne _ _ e]; exact ⟨rfl, rfl, rfl, rfl⟩
  · rw [prE_neg]
    by_cases e : j = i
    · subst e
      rw [prE_self, hlv]
    · rw [prE_ne _ _ _ (by omega)]
      unfold lgE
      rw [setE_ne _ _ e]
  · rw [prE_neg] at hn
    unfold lgE
    by_cases e : j = i
    · subst e; rw [hlv] at hn; cases hn
    · rw [setE_ne _ _ e]
  · have a := (h.low j hj).1
    have b := h.top j hj
    unfold lgE
    by_cases e : j = i
    · subst e
      rw [setE_same]
      show 0 ≤ (c j).h - 1 ∧ (c j).h - 1 ≤ B
      omega
    · rw [setE_ne _ _ e]; omega
/-- What is there again is not being taken away. -/
theorem BIv.stop {c : Nat → Ent} {x : Int} {m : Nat} {B : Int} (h : BIv c x m B) (hx : x = -1 ∨ ∃ j : Nat, x = (j : Int) ∧ lvE (c j) = true) : BIv c (-1) m B := by
  rcases hx with rfl | ⟨j, rfl, hj⟩
  · exact h
  · refine h.holds (fun _ _ => ⟨rfl, rfl, rfl, rfl⟩) (fun i _ => ?_) (fun _ _ _ => rfl) (fun i hi => ⟨(h.low i hi).1, h.top i hi⟩) (Or.inl rfl)
    rw [prE_neg]
    by_cases e : i = j
    · subst e; rw [prE_self, hj]
    · rw [prE_ne _ _ _ (by omega)]
/-- A child less. -/
def kdE (c : Nat → Ent) (i : Nat) (d : Int) : Nat → Ent := setE c i ⟨(c i).s, (c i).p, (c i).q, (c i).h, (c i).k + d⟩
/-- Taken away: its parent has a child less. -/
def rmE (c : Nat → Ent) (i : Nat) : Nat → Ent :=
  if (c i).q = -1 then setE c i zeE else kdE (setE c i zeE) (c i).q.toNat (-1)
theorem BIv.remove {c : Nat → Ent} {i m : Nat} {B : Int} (h : BIv c (i : Int) m B) (hB : 0 ≤ B) (hi : i < 4096) (hv : lvE (c i) = false) : BIv (rmE c i) (c i).q (m - 1) B ∧ 0 < m := by
  have hpi := prE_self c i
  have hm := h.many
  have hmp : 0 < m := by rw [hm]; exact cnt_pos hi hpi
  have hki : (c i).k = 0 := by
    rw [lvE_not] at hv; have := h.low i hi; omega
  have hno : ∀ j, j < 4096 → prE c (i : Int) j = true → (c j).q ≠ (i : Int) := fun j hj hp he => by
    have e1 := h.kids i hi
    rw [hki] at e1
    have e2 := cnt_none (f := fun j => prE c (i : Int) j && decide ((c j).q = (i : Int))) (n := 4096) (by omega) j hj
    simp [hp, he] at e2
  refine ⟨?_, hmp⟩
  rcases h.par i hi hpi with h1 | ⟨j, h1, h2, h3, h4, h5⟩
  · -- no parent
    have hr : rmE c i = setE c i zeE := by unfold rmE; rw [if_pos h1]
    rw [hr, h1]
    have hpr : ∀ a, a < 4096 → a ≠ i → prE (setE c i zeE) (-1) a = prE c (i : Int) a := fun a _ hn => by
      rw [prE_neg, setE_ne _ _ hn, prE_ne _ _ _ (by omega)]
    have hpi' : prE (setE c i zeE) (-1) i = false := by rw [prE_neg, setE_same]; rfl
    refine ⟨fun a ha hn => ?_, fun a ha => ?_, fun a ha => ?_, fun a ha hn => ?_, fun a ha hn => ?_, fun a ha => ?_, fun a b ha hb k1 k2 k3 k4 k5 => ?_, ?_, Or.inl rfl⟩
    · by_cases e : a = i
      · subst e; exact setE_same _ _ _
      · rw [hpr a ha e] at hn; rw [setE_ne _ _ e]; exact h.zero a ha hn
    · by_cases e : a = i
      · subst e; rw [setE_same]; exact ⟨Int.le_refl _, Int.le_refl _⟩
      · rw [setE_ne _ _ e]; exact h.low a ha
    · by_cases e : a = i
      · subst e; rw [setE_same]; exact hB
      · rw [setE_ne _ _ e]; exact h.top a ha
    · by_cases e : a = i
      · subst e; rw [hpi'] at hn; cases hn
      · rw [hpr a ha e] at hn
        rw [setE_ne _ _ e]
        rcases h.par a ha hn with k1 | ⟨b, k1, k2, k3, k4, k5⟩
        · exact Or.inl k1
        · have hbi : b ≠ i := fun e2 => hno a ha hn (by rw [k1, e2])
          exact Or.inr ⟨b, k1, k2, by rw [setE_ne _ _ hbi]; exact ⟨k3, k4, k5⟩⟩
    · by_cases e : a = i
      · subst e; rw [hpi'] at hn; cases hn
      · rw [hpr a ha e] at hn; rw [setE_ne _ _ e]; exact h.rng a ha hn
    · by_cases e : a = i
      · subst e
        rw [setE_same, cnt_zero fun b hb => ?_]
        · rfl
        · by_cases e2 : b = a
          · subst e2; rw [hpi']; rfl
          · rw [hpr b hb e2, setE_ne _ _ e2]
            cases hp : prE c (a : Int) b with
            | false => rfl
            | true => simpa using hno b hb hp
      · rw [setE_ne _ _ e, h.kids a ha]
        refine congrArg Int.ofNat (cnt_congr fun b hb => ?_)
        by_cases e2 : b = i
        · subst e2
          have : ¬ (-1 : Int) = (a : Int) := by omega
          simp [hpi', h1, this]
        · rw [hpr b hb e2, setE_ne _ _ e2]
    · have ea : a ≠ i := fun e => by subst e; rw [hpi'] at k1; cases k1
      have eb : b ≠ i := fun e => by subst e; rw [hpi'] at k2; cases k2
      rw [hpr a ha ea] at k1
      rw [hpr b hb eb] at k2
      rw [setE_ne _ _ ea, setE_ne _ _ eb] at k3 k4 k5
      exact h.one a b ha hb k1 k2 k3 k4 k5
    · have := cnt_set (f := prE c (i : Int)) (g := prE (setE c i zeE) (-1)) hi fun a ha hn => (hpr a ha hn).symm
      rw [hpi, hpi', if_pos rfl, if_neg (by simp)] at this
      omega
  · -- its parent j
    have hji : j ≠ i := fun e => by subst e; omega
    have hr : rmE c i = kdE (setE c i zeE) j (-1) := by
      unfold rmE
      rw [if_neg (by omega), h1]
      simp
    have hlj : lvE (c j) = true := lv_kids h h2 h3
    rw [hr, h1]
    have vi : kdE (setE c i zeE) j (-1) i = zeE := by unfold kdE; rw [setE_ne _ _ (Ne.symm hji), setE_same]
    have vj : kdE (setE c i zeE) j (-1) j = ⟨(c j).s, (c j).p, (c j).q, (c j).h, (c j).k + -1⟩ := by unfold kdE; rw [setE_same, setE_ne _ _ hji]
    have vo : ∀ a, a ≠ i → a ≠ j → kdE (setE c i zeE) j (-1) a = c a := fun a e1 e2 => by unfold kdE; rw [setE_ne _ _ e2, setE_ne _ _ e1]
    generalize kdE (setE c i zeE) j (-1) = d at vi vj vo ⊢
    have hs : ∀ a, a ≠ i → (d a).s = (c a).s ∧ (d a).p = (c a).p ∧ (d a).q = (c a).q ∧ (d a).h = (c a).h := fun a e1 => by
      by_cases e2 : a = j
      · subst e2; rw [vj]; exact ⟨rfl, rfl, rfl, rfl⟩
      · rw [vo a e1 e2]; exact ⟨rfl, rfl, rfl, rfl⟩
    have hpr : ∀ a, a < 4096 → a ≠ i → prE d (j : Int) a = prE c (i : Int) a := fun a _ hn => by
      rw [prE_ne c _ _ (by omega)]
      by_cases e2 : a = j
      · subst e2; rw [prE_self, hlj]
      · rw [prE_ne d _ _ (by omega), vo a hn e2]
    have hpi' : prE d (j : Int) i = false := by rw [prE_ne _ _ _ (by omega), vi]; rfl
    have hq : ∀ b, b < 4096 → b ≠ i → (prE d (j : Int) b && decide ((d b).q = (j : Int))) = (prE c (i : Int) b && decide ((c b).q = (j : Int))) := fun b hb hn => by
      rw [hpr b hb hn, (hs b hn).2.2.1]
    have hkj : (d j).k = (cnt (fun b => prE d (j : Int) b && decide ((d b).q = (j : Int))) 4096 : Nat) := by
      have e1 := cnt_set (f := fun b => prE c (i : Int) b && decide ((c b).q = (j : Int))) (g := fun b => prE d (j : Int) b && decide ((d b).q = (j : Int))) hi fun a ha hn => (hq a ha hn).symm
      have e2 := h.kids j h2
      simp only [hpi, hpi', h1, Bool.true_and, Bool.false_and, decide_true, if_true] at e1
      rw [if_neg (by simp)] at e1
      rw [vj]
      dsimp only
      rw [e2]
      omega
    refine ⟨fun a ha hn => ?_, fun a ha => ?_, fun a ha => ?_, fun a ha hn => ?_, fun a ha hn => ?_, fun a ha => ?_, fun a b ha hb k1 k2 k3 k4 k5 => ?_, ?_, Or.inr ⟨j, rfl, h2⟩⟩
    · by_cases e : a = i
      · subst e; exact vi
      · have e2 : a ≠ j := fun e2 => by subst e2; rw [prE_self] at hn; cases hn
        rw [hpr a ha e] at hn; rw [vo a e e2]; exact h.zero a ha hn
    · by_cases e : a = i
      · subst e; rw [vi]; exact ⟨Int.le_refl _, Int.le_refl _⟩
      · by_cases e2 : a = j
        · subst e2; rw [hkj]; exact ⟨by rw [(hs a e).2.2.2]; exact (h.low a ha).1, by omega⟩
        · rw [vo a e e2]; exact h.low a ha
    · by_cases e : a = i
      · subst e; rw [vi]; exact hB
      · rw [(hs a e).2.2.2]; exact h.top a ha
    · by_cases e : a = i
      · subst e; rw [hpi'] at hn; cases hn
      · have hn' := hn
        rw [hpr a ha e] at hn
        rw [(hs a e).1, (hs a e).2.1, (hs a e).2.2.1]
        rcases h.par a ha hn with k1 | ⟨b, k1, k2, k3, k4, k5⟩
        · exact Or.inl k1
        · have hbi : b ≠ i := fun e2 => hno a ha hn (by rw [k1, e2])
          refine Or.inr ⟨b, k1, k2, ?_, by rw [(hs b hbi).1]; exact k4, by rw [(hs b hbi).2.1]; exact k5⟩
          by_cases e2 : b = j
          · subst e2
            rw [hkj]
            have := cnt_pos (f := fun a => prE d (b : Int) a && decide ((d a).q = (b : Int))) ha (by rw [hn', (hs a e).2.2.1, k1]; simp)
            omega
          · rw [vo b hbi e2]; exact k3
    · by_cases e : a = i
      · subst e; rw [hpi'] at hn; cases hn
      · rw [hpr a ha e] at hn; rw [(hs a e).1, (hs a e).2.1]; exact h.rng a ha hn
    · by_cases e : a = i
      · subst e
        rw [vi, cnt_zero fun b hb => ?_]
        · rfl
        · by_cases e2 : b = a
          · subst e2; rw [hpi']; rfl
          · rw [hpr b hb e2, (hs b e2).2.2.1]
            cases hp : prE c (a : Int) b with
            | false => rfl
            | true => simpa using hno b hb hp
      · by_cases e2 : a = j
        · subst e2; exact hkj
        · rw [vo a e e2, h.kids a ha]
          refine congrArg Int.ofNat (cnt_congr fun b hb => ?_)
          by_cases e3 : b = i
          · subst e3
            have : ¬ (j : Int) = (a : Int) := by omega
            simp [hpi', h1, this]
          · rw [hpr b hb e3, (hs b e3).2.2.1]
    · have ea : a ≠ i := fun e => by subst e; rw [hpi'] at k1; cases k1
      have eb : b ≠ i := fun e => by subst e; rw [hpi'] at k2; cases k2
      rw [hpr a ha ea] at k1
      rw [hpr b hb eb] at k2
      rw [(hs a ea).1, (hs b eb).1] at k3
      rw [(hs a ea).2.1, (hs b eb).2.1] at k4
      rw [(hs a ea).2.2.1, (hs b eb).2.2.1] at k5
      exact h.one a b ha hb k1 k2 k3 k4 k5
    · have := cnt_set (f := prE c (i : Int)) (g := prE d (j : Int)) hi fun a ha hn => (hpr a ha hn).symm
      rw [hpi, hpi', if_pos rfl, if_neg (by simp)] at this
      omega
end Go.Proofs.Ythdfaidjdddagaa
