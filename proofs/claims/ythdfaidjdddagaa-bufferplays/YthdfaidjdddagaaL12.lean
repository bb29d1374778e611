/-
  Entries by their keys, plainly: what Put leaves of them; chains of two. Of no program.
  The document's buffer: rows of entries that grow; an entry more, plainly.
-/
import Derived.Test.YthdfaidjdddagaaL05
import Derived.Test.YthdfaidjdddagaaL11
namespace Go.Proofs.Ythdfaidjdddagaa
open Go.RowKit

/-- An entry with this key is there. -/
def Ky (c : Nat → Ent) (s p q : Int) (i : Nat) : Prop := i < 4096 ∧ lvE (c i) = true ∧ (c i).s = s ∧ (c i).p = p ∧ (c i).q = q
theorem Ky.key {c : Nat → Ent} {s p q s' p' q' : Int} {i : Nat} (h : Ky c s p q i) (k : Ky c s' p' q' i) : s = s' ∧ p = p' ∧ q = q' :=
  ⟨h.2.2.1.symm.trans k.2.2.1, h.2.2.2.1.symm.trans k.2.2.2.1, h.2.2.2.2.symm.trans k.2.2.2.2⟩
theorem Ky.one {c : Nat → Ent} {m : Nat} {B s p q : Int} {i j : Nat} (hI : BIv c (-1) m B) (h : Ky c s p q i) (k : Ky c s p q j) : i = j :=
  hI.one i j h.1 k.1 (prE_lv _ h.2.1) (prE_lv _ k.2.1) (by rw [h.2.2.1, k.2.2.1]) (by rw [h.2.2.2.1, k.2.2.2.1]) (by rw [h.2.2.2.2, k.2.2.2.2])
theorem adE_at {c : Nat → Ent} {i : Nat} {s p q : Int} (hv : lvE (c i) = false) (hq : ParOk c s p q) : adE c i s p q i = ⟨s, p, q, 1, 0⟩ := by
  unfold adE
  split
  · exact setE_same _ _ _
  · rename_i hq1
    unfold kdE
    rw [setE_ne _ _ (fun e => ?_), setE_same]
    rcases hq with h1 | ⟨j, h1, h2, h3, _⟩
    · exact hq1 h1
    · obtain rfl : i = j := by omega
      rw [hv] at h3; cases h3
theorem adE_ne {c : Nat → Ent} {i a : Nat} {s p q : Int} (hq : ParOk c s p q) (ha : a ≠ i) : (adE c i s p q a).s = (c a).s ∧ (adE c i s p q a).p = (c a).p ∧ (adE c i s p q a).q = (c a).q ∧ (adE c i s p q a).h = (c a).h ∧ lvE (adE c i s p q a) = lvE (c a) := by
  unfold adE
  split
  · rw [setE_ne _ _ ha]; exact ⟨rfl, rfl, rfl, rfl, rfl⟩
  · rename_i hq1
    unfold kdE
    by_cases e : a = q.toNat
    · rw [e, setE_same, setE_ne _ _ (by rw [← e]; exact ha)]
      refine ⟨rfl, rfl, rfl, rfl, ?_⟩
      rcases hq with h1 | ⟨j, h1, h2, h3, _⟩
      · exact absurd h1 hq1
      · have : q.toNat = j := by omega
        rw [this, h3, lvE_iff]
        rw [lvE_iff] at h3
        show 0 < (c j).h + ((c j).k + 1)
        omega
    · rw [setE_ne _ _ e, setE_ne _ _ ha]; exact ⟨rfl, rfl, rfl, rfl, rfl⟩
theorem hoE_all (c : Nat → Ent) (i a : Nat) (hv : lvE (c i) = true) : (hoE c i a).s = (c a).s ∧ (hoE c i a).p = (c a).p ∧ (hoE c i a).q = (c a).q ∧ (hoE c i a).k = (c a).k ∧ lvE (hoE c i a) = lvE (c a) := by
  unfold hoE
  by_cases e : a = i
  · subst e
    rw [setE_same]
    refine ⟨rfl, rfl, rfl, rfl, ?_⟩
    rw [hv, lvE_iff]
    rw [lvE_iff] at hv
    show 0 < (c a).h + 1 + (c a).k
    omega
  · rw [setE_ne _ _ e]; exact ⟨rfl, rfl, rfl, rfl, rfl⟩
/-- Put of what may be put, where there is room. -/
theorem PutR.ok {c d : Nat → Ent} {m n : Nat} {s p q id er : Int} (h : PutR c m s p q id er d n) (hr : 0 ≤ s ∧ s < 8 ∧ 0 ≤ p ∧ p ≤ 1073741824) (hq : ParOk c s p q) (hm : m < 4096) :
    er = 0 ∧ ∃ i : Nat, id = (i : Int) ∧ Ky d s p q i ∧ (∀ s' p' q' j, Ky d s' p' q' j ↔ Ky c s' p' q' j ∨ (j = i ∧ s' = s ∧ p' = p ∧ q' = q)) ∧ ((n = m ∧ Ky c s p q i) ∨ (n = m + 1 ∧ ∀ j, ¬ Ky c s p q j)) := by
  cases h with
  | range a => exact absurd hr a
  | ref _ a1 a2 => exact (hq.ref a1 a2).elim
  | bad j _ a1 _ _ a4 => exact (hq.bad a1 a4).elim
  | full _ _ _ a => omega
  | again i _ _ a2 a3 a4 =>
    have hk : Ky c s p q i := ⟨a2, a3, a4⟩
    have key : ∀ s' p' q' j, Ky (hoE c i) s' p' q' j ↔ Ky c s' p' q' j := fun s' p' q' j => by
      obtain ⟨e1, e2, e3, _, e5⟩ := hoE_all c i j a3
      unfold Ky
      rw [e1, e2, e3, e5]
    refine ⟨rfl, i, rfl, (key _ _ _ _).2 hk, fun s' p' q' j => ?_, Or.inl ⟨rfl, hk⟩⟩
    rw [key]
    refine ⟨Or.inl, fun h => h.elim (fun h => h) fun ⟨h1, h2, h3, h4⟩ => ?_⟩
    rw [h1, h2, h3, h4]
    exact hk
  | more i _ _ a2 _ a4 a5 a6 =>
    have hat := adE_at (s := s) (p := p) (q := q) a5 hq
    have hk : Ky (adE c i s p q) s p q i := ⟨a4, by rw [hat]; rfl, by rw [hat], by rw [hat], by rw [hat]⟩
    refine ⟨rfl, i, rfl, hk, fun s' p' q' j => ?_, Or.inr ⟨rfl, fun j hj => a2 j hj.1 hj.2.1 hj.2.2⟩⟩
    by_cases e : j = i
    · subst e
      constructor
      · intro h
        obtain ⟨h1, h2, h3⟩ := h.key hk
        exact Or.inr ⟨rfl, h1, h2, h3⟩
      · rintro (h | ⟨_, h2, h3, h4⟩)
        · have := h.2.1
          rw [a5] at this; cases this
        · rw [h2, h3, h4]; exact hk
    · obtain ⟨e1, e2, e3, _, e5⟩ := adE_ne (s := s) (p := p) hq e
      unfold Ky
      rw [e1, e2, e3, e5]
      exact ⟨Or.inl, fun h => h.elim id fun h => absurd h.1 e⟩
/-- What was seen is what is there: chains of one, and of two. -/
structure ShI (c : Nat → Ent) (S : List (Int × Int)) : Prop where
  a : ∀ f, (f, -1) ∈ S ↔ ∃ i, Ky c 0 f (-1) i
  b : ∀ f g, g ≠ -1 → ((f, g) ∈ S ↔ ∃ i j : Nat, Ky c 0 f (-1) i ∧ Ky c 1 g (i : Int) j)
theorem ShI.empty : ShI (fun _ => zeE) [] where
  a := fun f => ⟨(fun h => by cases h), (fun ⟨i, h⟩ => by have := h.2.1; cases this)⟩
  b := fun f g _ => ⟨(fun h => by cases h), (fun ⟨i, j, h, _⟩ => by have := h.2.1; cases this)⟩
/-- Who is a parent is there. -/
theorem Ky.par {c : Nat → Ent} {m : Nat} {B s p : Int} {i j : Nat} (hI : BIv c (-1) m B) (h : Ky c s p (i : Int) j) : i < 4096 ∧ lvE (c i) = true := by
  rcases hI.par j h.1 (prE_lv _ h.2.1) with h1 | ⟨k, h1, h2, h3, _⟩
  · rw [h.2.2.2.2] at h1; omega
  · have : k = i := by rw [h.2.2.2.2] at h1; omega
    subst this
    exact ⟨h2, lv_kids hI h2 h3⟩
/-- Two more Puts. -/
theorem ShI.step {c c1 c2 : Nat → Ent} {S S' : List (Int × Int)} {m n1 n2 i j : Nat} {B f g : Int} (h : ShI c S) (hI : BIv c (-1) m B) (hI1 : BIv c1 (-1) n1 (B + 1)) (hg : g ≠ -1)
    (k1 : Ky c1 0 f (-1) i) (a1 : ∀ s' p' q' j, Ky c1 s' p' q' j ↔ Ky c s' p' q' j ∨ (j = i ∧ s' = 0 ∧ p' = f ∧ q' = -1)) (m1 : (n1 = m ∧ Ky c 0 f (-1) i) ∨ (n1 = m + 1 ∧ ∀ j, ¬ Ky c 0 f (-1) j))
    (k2 : Ky c2 1 g (i : Int) j) (a2 : ∀ s' p' q' x, Ky c2 s' p' q' x ↔ Ky c1 s' p' q' x ∨ (x = j ∧ s' = 1 ∧ p' = g ∧ q' = (i : Int))) (m2 : (n2 = n1 ∧ Ky c1 1 g (i : Int) j) ∨ (n2 = n1 + 1 ∧ ∀ x, ¬ Ky c1 1 g (i : Int) x))
    (hS : ∀ x, x ∈ S' ↔ (x ∈ S ∨ x = (f, -1)) ∨ x = (f, g)) :
    ShI c2 S' ∧ (n1 = if (f, -1) ∈ S then m else m + 1) ∧ (n2 = if (f, g) ∈ S then n1 else n1 + 1) ∧ IsWay c2 (j : Int) [(0, f), (1, g)] := by
  have q0 : ∀ f' x, Ky c2 0 f' (-1) x ↔ Ky c 0 f' (-1) x ∨ (x = i ∧ f' = f) := fun f' x => by
    rw [a2, a1]
    constructor
    · rintro ((h | ⟨h1, _, h2, _⟩) | ⟨_, h, _⟩)
      · exact Or.inl h
      · exact Or.inr ⟨h1, h2⟩
      · exact absurd h (by decide)
    · rintro (h | ⟨h1, h2⟩)
      · exact Or.inl (Or.inl h)
      · exact Or.inl (Or.inr ⟨h1, rfl, h2, rfl⟩)
  have q1 : ∀ g' (y : Int) z, Ky c1 1 g' y z ↔ Ky c 1 g' y z := fun g' y z => by
    rw [a1]
    constructor
    · rintro (h | ⟨_, h, _⟩)
      · exact h
      · exact absurd h (by decide)
    · exact Or.inl
  have q2 : ∀ g' (y : Int) z, Ky c2 1 g' y z ↔ Ky c 1 g' y z ∨ (z = j ∧ g' = g ∧ y = (i : Int)) := fun g' y z => by
    rw [a2, q1]
    constructor
    · rintro (h | ⟨h1, _, h2, h3⟩)
      · exact Or.inl h
      · exact Or.inr ⟨h1, h2, h3⟩
    · rintro (h | ⟨h1, h2, h3⟩)
      · exact Or.inl h
      · exact Or.inr ⟨h1, rfl, h2, h3⟩
  -- one that has a child was there already
  have old : ∀ g' z, Ky c 1 g' (i : Int) z → Ky c 0 f (-1) i := fun g' z hz => by
    obtain ⟨hi, hl⟩ := hz.par hI
    have hc : Ky c (c i).s (c i).p (c i).q i := ⟨hi, hl, rfl, rfl, rfl⟩
    obtain ⟨e1, e2, e3⟩ := ((a1 _ _ _ _).2 (Or.inl hc)).key k1
    exact ⟨hi, hl, e1, e2, e3⟩
  have sb : (f, g) ∈ S ↔ ∃ z, Ky c 1 g (i : Int) z := by
    rw [h.b f g hg]
    constructor
    · rintro ⟨x, z, hx, hz⟩
      have e : x = i := Ky.one hI1 ((a1 _ _ _ _).2 (Or.inl hx)) k1
      subst e
      exact ⟨z, hz⟩
    · rintro ⟨z, hz⟩
      exact ⟨i, z, old g z hz, hz⟩
  refine ⟨⟨fun f' => ?_, fun f' g' hg' => ?_⟩, ?_, ?_, ?_⟩
  · rw [hS]
    constructor
    · rintro ((h1 | h1) | h1)
      · obtain ⟨x, hx⟩ := (h.a f').1 h1
        exact ⟨x, (q0 _ _).2 (Or.inl hx)⟩
      · simp at h1
        exact ⟨i, (q0 _ _).2 (Or.inr ⟨rfl, h1⟩)⟩
      · simp at h1
        exact absurd h1.2.symm hg
    · rintro ⟨x, hx⟩
      rcases (q0 _ _).1 hx with h1 | ⟨_, h1⟩
      · exact Or.inl (Or.inl ((h.a f').2 ⟨x, h1⟩))
      · exact Or.inl (Or.inr (by rw [h1]))
  · rw [hS]
    constructor
    · rintro ((h1 | h1) | h1)
      · obtain ⟨x, z, hx, hz⟩ := (h.b f' g' hg').1 h1
        exact ⟨x, z, (q0 _ _).2 (Or.inl hx), (q2 _ _ _).2 (Or.inl hz)⟩
      · simp at h1
        exact absurd h1.2 hg'
      · simp at h1
        exact ⟨i, j, (q0 _ _).2 (Or.inr ⟨rfl, h1.1⟩), (q2 _ _ _).2 (Or.inr ⟨rfl, h1.2, rfl⟩)⟩
    · rintro ⟨x, z, hx, hz⟩
      rcases (q0 _ _).1 hx with h1 | ⟨h1, h2⟩
      · rcases (q2 _ _ _).1 hz with h3 | ⟨_, h4, h5⟩
        · exact Or.inl (Or.inl ((h.b f' g' hg').2 ⟨x, z, h1, h3⟩))
        · have e : x = i := by omega
          subst e
          have := ((a1 _ _ _ _).2 (Or.inl h1)).key k1
          exact Or.inr (by rw [this.2.1, h4])
      · subst h1
        rcases (q2 _ _ _).1 hz with h3 | ⟨_, h4, _⟩
        · exact Or.inl (Or.inl ((h.b f' g' hg').2 ⟨x, z, by rw [h2]; exact old g' z h3, h3⟩))
        · exact Or.inr (by rw [h2, h4])
  · rcases m1 with ⟨e, hk⟩ | ⟨e, hk⟩
    · rw [if_pos ((h.a f).2 ⟨i, hk⟩)]; exact e
    · rw [if_neg (fun hm => by obtain ⟨x, hx⟩ := (h.a f).1 hm; exact hk x hx)]; exact e
  · rcases m2 with ⟨e, hk⟩ | ⟨e, hk⟩
    · rw [if_pos (sb.2 ⟨j, (q1 _ _ _).1 hk⟩)]; exact e
    · rw [if_neg (fun hm => by obtain ⟨x, hx⟩ := sb.1 hm; exact hk x ((q1 _ _ _).2 hx))]; exact e
  · have e1 : Ky c2 0 f (-1) i := (a2 _ _ _ _).2 (Or.inl k1)
    have w1 := IsWay.some i [] e1.1 e1.2.1 (by rw [e1.2.2.2.2]; exact IsWay.none)
    have w2 := IsWay.some j _ k2.1 k2.2.1 (by rw [k2.2.2.2.2]; exact w1)
    rw [e1.2.2.1, e1.2.2.2.1, k2.2.2.1, k2.2.2.2.1] at w2
    exact w2
end Go.Proofs.Ythdfaidjdddagaa
namespace Go.Proofs.Ythdfaidjdddagaa
open Go.RowKit

/-- Entries as cells. -/
def erC (es : Nat → Ent) : Nat → List Value
  | 0 => []
  | n + 1 => erC es n ++ [.int .i64 (es n).s, .int .i64 (es n).p, .int .i64 (es n).q, .int .i64 (es n).h, .int .i64 (es n).k]
theorem erC_len (es : Nat → Ent) (n : Nat) : (erC es n).length = n * 5 := by
  induction n with
  | zero => rfl
  | succ n ih => unfold erC; rw [List.length_append, ih]; simp; omega
theorem erC_at (es : Nat → Ent) : ∀ n i k, i < n → k < 5 → (erC es n)[i * 5 + k]? = [Value.int .i64 (es i).s, .int .i64 (es i).p, .int .i64 (es i).q, .int .i64 (es i).h, .int .i64 (es i).k][k]? := by
  intro n
  induction n with
  | zero => intro i k hi; omega
  | succ n ih =>
    intro i k hi hk
    unfold erC
    rcases Nat.lt_or_ge i n with h | h
    · rw [List.getElem?_append_left (by rw [erC_len]; omega)]
      exact ih i k h hk
    · obtain rfl : i = n := by omega
      rw [List.getElem?_append_right (by rw [erC_len]; omega), erC_len, show i * 5 + k - i * 5 = k by omega]
theorem RoE.own {g n cap : Nat} {es : Nat → Ent} {w : World} (h : RoE g n cap es w) : w.ownsRow 0 69 5 (.slice (some ⟨g, 0, none⟩) n cap) n (erC es n) := by
  obtain ⟨cur, h1, h2, h3, h4, h5⟩ := h.ex
  refine ⟨erC_len es n, Or.inr ⟨g, cap, cur, rfl, Nat.zero_le _, h1, h2, h3, h4, ?_⟩⟩
  apply List.ext_getElem?
  intro j
  rcases Nat.lt_or_ge j (n * 5) with hj | hj
  · rw [List.getElem?_take_of_lt hj]
    obtain ⟨i, k, hk, rfl⟩ : ∃ i k, k < 5 ∧ j = i * 5 + k := ⟨j / 5, j % 5, Nat.mod_lt _ (by decide), by omega⟩
    have hi : i < n := by omega
    rw [erC_at es n i k hi hk]
    obtain ⟨b1, b2, b3, b4, b5⟩ := h5 i hi
    rcases (show k = 0 ∨ k = 1 ∨ k = 2 ∨ k = 3 ∨ k = 4 by omega) with rfl | rfl | rfl | rfl | rfl
    · simpa using b1
    · simpa using b2
    · simpa using b3
    · simpa using b4
    · simpa using b5
  · rw [List.getElem?_eq_none (by simp; omega), List.getElem?_eq_none (by rw [erC_len]; exact hj)]
theorem RoE.of {g n cap : Nat} {es : Nat → Ent} {w : World} (h : w.ownsRow 0 69 5 (.slice (some ⟨g, 0, none⟩) n cap) n (erC es n)) : RoE g n cap es w := by
  obtain ⟨h0, ⟨e, _⟩ | ⟨g', cap', cur, e, _, hh, h2, h3, h4, h5⟩⟩ := h
  · cases e
  · simp only [Value.slice.injEq, Option.some.injEq, Addr.mk.injEq, and_true, true_and] at e
    obtain ⟨rfl, rfl⟩ := e
    refine ⟨cur, hh, h2, h3, h4, fun i hi => ?_⟩
    have get : ∀ k, k < 5 → cur[i * 5 + k]? = (erC es n)[i * 5 + k]? := fun k hk => by
      rw [← h5, List.getElem?_take_of_lt (by omega)]
      simp
    refine ⟨?_, ?_, ?_, ?_, ?_⟩
    · have := get 0 (by decide); rw [erC_at es n i 0 hi (by decide)] at this; exact this
    · have := get 1 (by decide); rw [erC_at es n i 1 hi (by decide)] at this; exact this
    · have := get 2 (by decide); rw [erC_at es n i 2 hi (by decide)] at this; exact this
    · have := get 3 (by decide); rw [erC_at es n i 3 hi (by decide)] at this; exact this
    · have := get 4 (by decide); rw [erC_at es n i 4 hi (by decide)] at this; exact this
theorem RoE.put {g n cap : Nat} {es : Nat → Ent} {w : World} (h : RoE g n cap es w) (i : Nat) (hi : i < n) (e : Ent) : RoE g n cap (setE es i e) (put5 g i e w) := by
  obtain ⟨cur, h1, h2, h3, h4, h5⟩ := h.ex
  refine ⟨_, heap_set (heap_set (heap_set (heap_set (heap_set h1 _) _) _) _) _, h2, h3, by simp [h4], fun j hj => ?_⟩
  obtain ⟨a1, a2, a3, a4, a5⟩ := h5 j hj
  by_cases e1 : j = i
  · subst e1
    rw [setE_same]
    unfold E5
    simp only [Array.getElem?_setIfInBounds, Array.size_setIfInBounds]
    have g1 : j * 5 < cur.size := by omega
    have g2 : j * 5 + 1 < cur.size := by omega
    have g3 : j * 5 + 2 < cur.size := by omega
    have g4 : j * 5 + 3 < cur.size := by omega
    have g5 : j * 5 + 4 < cur.size := by omega
    simp [g1, g2, g3, g4, g5]
  · rw [setE_ne _ _ e1]
    refine ⟨?_, ?_, ?_, ?_, ?_⟩ <;> (repeat rw [Array.getElem?_setIfInBounds_ne (by omega)]) <;> assumption
theorem info_entry : (Try.prog.info? 69).map (fun i => (i.zero, i.size, i.bytes)) = some (some (.agg #[.int .i64 0, .int .i64 0, .int .i64 0, .int .i64 0, .int .i64 0]), 5, 40) := by kernel_rfl
theorem erC_congr {es es' : Nat → Ent} {n : Nat} (h : ∀ i, i < n → es i = es' i) : erC es n = erC es' n := by
  induction n with
  | zero => rfl
  | succ n ih => unfold erC; rw [ih fun i hi => h i (by omega), h n (by omega)]
theorem erC_more (es : Nat → Ent) (n : Nat) : erC es n ++ [.int .i64 0, .int .i64 0, .int .i64 0, .int .i64 0, .int .i64 0] = erC (setE es n zeE) (n + 1) := by
  show _ = erC (setE es n zeE) n ++ _
  rw [setE_same, erC_congr (es := setE es n zeE) (es' := es) fun i hi => setE_ne _ _ (by omega)]
  rfl
/-- One more, without a parent. -/
theorem RbI.addF {c es : Nat → Ent} {n n' i : Nat} {s p : Int} (h : RbI c (-1) n es) (hi : i < 4096) (hn : (n' = n ∧ i < n) ∨ (n' = n + 1 ∧ i = n)) : RbI (adE c i s p (-1)) (-1) n' (setE es i ⟨s, p, -1, 1, 0⟩) := by
  have ha : adE c i s p (-1) = setE c i ⟨s, p, -1, 1, 0⟩ := by unfold adE; rw [if_pos rfl]
  rw [ha]
  have hle := h.le
  have pi : prE (setE c i ⟨s, p, -1, 1, 0⟩) (-1) i = true := by rw [prE_neg, setE_same]; rfl
  have pe : ∀ j, j ≠ i → prE (setE c i ⟨s, p, -1, 1, 0⟩) (-1) j = prE c (-1) j := fun j e => by rw [prE_neg, prE_neg, setE_ne _ _ e]
  refine ⟨fun j hj hp => ?_, fun j hj hp => ?_, fun j hj hn' => ?_, by omega⟩
  · by_cases e : j = i
    · subst e; rw [setE_same, setE_same]
    · rw [pe j e] at hp; rw [setE_ne _ _ e, setE_ne _ _ e]; exact h.eq j (by omega) hp
  · by_cases e : j = i
    · subst e; rw [pi] at hp; cases hp
    · rw [pe j e] at hp; rw [setE_ne _ _ e]; exact h.no j (by omega) hp
  · have e : j ≠ i := by omega
    rw [pe j e]; exact h.out j hj (by omega)
/-- One more, behind another one. -/
theorem RbI.addB {c es : Nat → Ent} {n n' i a : Nat} {s p : Int} (h : RbI c (-1) n es) (hi : i < 4096) (hn : (n' = n ∧ i < n) ∨ (n' = n + 1 ∧ i = n)) (hv : lvE (c i) = false) (hla : lvE (c a) = true) (ha4 : a < 4096) : RbI (adE c i s p (a : Int)) (-1) n' (setE (setE es i ⟨s, p, (a : Int), 1, 0⟩) a ⟨(c a).s, (c a).p, (c a).q, (c a).h, (c a).k + 1⟩) := by
  have hne : a ≠ i := fun e => by subst e; rw [hv] at hla; cases hla
  have ha : adE c i s p (a : Int) = kdE (setE c i ⟨s, p, (a : Int), 1, 0⟩) a 1 := by unfold adE; rw [if_neg (by omega)]; simp
  rw [ha]
  have hle := h.le
  have vi : kdE (setE c i ⟨s, p, (a : Int), 1, 0⟩) a 1 i = ⟨s, p, (a : Int), 1, 0⟩ := by unfold kdE; rw [setE_ne _ _ (Ne.symm hne), setE_same]
  have va : kdE (setE c i ⟨s, p, (a : Int), 1, 0⟩) a 1 a = ⟨(c a).s, (c a).p, (c a).q, (c a).h, (c a).k + 1⟩ := by unfold kdE; rw [setE_same, setE_ne _ _ hne]
  have vo : ∀ j, j ≠ i → j ≠ a → kdE (setE c i ⟨s, p, (a : Int), 1, 0⟩) a 1 j = c j := fun j e1 e2 => by unfold kdE; rw [setE_ne _ _ e2, setE_ne _ _ e1]
  generalize kdE (setE c i ⟨s, p, (a : Int), 1, 0⟩) a 1 = d at vi va vo
  have hka : 0 < (c a).h + (c a).k := (lvE_iff _).1 hla
  have pa : prE d (-1) a = true := by rw [prE_neg, va, lvE_iff]; show 0 < (c a).h + ((c a).k + 1); omega
  have pi : prE d (-1) i = true := by rw [prE_neg, vi]; rfl
  have pe : ∀ j, j ≠ i → j ≠ a → prE d (-1) j = prE c (-1) j := fun j e1 e2 => by rw [prE_neg, prE_neg, vo j e1 e2]
  have han := h.inrow a ha4 (by rw [prE_neg]; exact hla)
  refine ⟨fun j hj hp => ?_, fun j hj hp => ?_, fun j hj hn' => ?_, by omega⟩
  · by_cases e2 : j = a
    · subst e2; rw [setE_same, va]
    · rw [setE_ne _ _ e2]
      by_cases e : j = i
      · subst e; rw [setE_same, vi]
      · rw [pe j e e2] at hp; rw [setE_ne _ _ e, vo j e e2]; exact h.eq j (by omega) hp
  · by_cases e2 : j = a
    · subst e2; rw [pa] at hp; cases hp
    · rw [setE_ne _ _ e2]
      by_cases e : j = i
      · subst e; rw [pi] at hp; cases hp
      · rw [pe j e e2] at hp; rw [setE_ne _ _ e]; exact h.no j (by omega) hp
  · have e : j ≠ i := by omega
    have e2 : j ≠ a := by omega
    rw [pe j e e2]; exact h.out j hj (by omega)
end Go.Proofs.Ythdfaidjdddagaa
