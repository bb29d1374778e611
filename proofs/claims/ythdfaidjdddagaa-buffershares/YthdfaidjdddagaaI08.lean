/-
  Entries by their keys, plainly: what Put leaves of them; chains of two. Of no program.
  A slice of pairs that comes in as an argument: they lie where it says.
  BufferShares: its walk.
-/
import Derived.Test.YthdfaidjdddagaaI04
import Derived.Test.YthdfaidjdddagaaI06
import Derived.ProofKit
import Derived.OpenShut
import Derived.Deep.Slices
import Derived.Test.YthdfaidjdddagaaI07
namespace Go.Proofs.Ythdfaidjdddagaa
open Go.RowKit

/-- An entry with this key is there. -/
def Ky (c : Nat → Ent) (s p q : Int) (i : Nat) : Prop := i < 4096 ∧ lvE (c i) = true ∧ (c i).s = s ∧ (c i).p = p ∧ (c i).q = q
theorem Ky.key {c : Nat → Ent} {s p q s' p' q' : Int} {i : Nat} (h : Ky c s p q i) (k : Ky c s' p' q' i) : s = s' ∧ p = p' ∧ q = q' :=
  ⟨h.2.2.1.symm.trans k.2.2.1, h.2.2.2.1.symm.trans k.2.2.2.1, h.2.2.2.2.symm.trans k.2.2.2.2⟩
theorem Ky.one {c : Nat → Ent} {m : Nat} {B s p q : Int} {i j : Nat} (hI : BIv c (-1) m B) (h : Ky c s p q i) (k : Ky c s p q j) : i = j :=
  hI.one i j h.1 k.1 (prE_lv _ h.2.1) (prE_lv _ k.2.1) (by rw [h.2.2.1, k.2.2.1]) (by rw [h.2.2.2.1, k.2.2.2.1]) (by rw [h.2.2.2.2, k.2.2.2.2])
theorem adE_at {c : Nat → Ent} {i : Nat} {s p q : Int} (hv : lvE (c i) = false) (hq : ParOk c s p q) : adE c i s p q i = ⟨s, p, q, 1, 0⟩ := by
  unfold adE
  split
  · exact setE_same _ _ _
  · rename_i hq1
    unfold kdE
    rw [setE_ne _ _ (fun e => ?_), setE_same]
    rcases hq with h1 | ⟨j, h1, h2, h3, _⟩
    · exact hq1 h1
    · obtain rfl : i = j := by omega
      rw [hv] at h3; cases h3
theorem adE_ne {c : Nat → Ent} {i a : Nat} {s p q : Int} (hq : ParOk c s p q) (ha : a ≠ i) : (adE c i s p q a).s = (c a).s ∧ (adE c i s p q a).p = (c a).p ∧ (adE c i s p q a).q = (c a).q ∧ (adE c i s p q a).h = (c a).h ∧ lvE (adE c i s p q a) = lvE (c a) := by
  unfold adE
  split
  · rw [setE_ne _ _ ha]; exact ⟨rfl, rfl, rfl, rfl, rfl⟩
  · rename_i hq1
    unfold kdE
    by_cases e : a = q.toNat
    · rw [e, setE_same, setE_ne _ _ (by rw [← e]; exact ha)]
      refine ⟨rfl, rfl, rfl, rfl, ?_⟩
      rcases hq with h1 | ⟨j, h1, h2, h3, _⟩
      · exact absurd h1 hq1
      · have : q.toNat = j := by omega
        rw [this, h3, lvE_iff]
        rw [lvE_iff] at h3
        show 0 < (c j).h + ((c j).k + 1)
        omega
    · rw [setE_ne _ _ e, setE_ne _ _ ha]; exact ⟨rfl, rfl, rfl, rfl, rfl⟩
theorem hoE_all (c : Nat → Ent) (i a : Nat) (hv : lvE (c i) = true) : (hoE c i a).s = (c a).s ∧ (hoE c i a).p = (c a).p ∧ (hoE c i a).q = (c a).q ∧ (hoE c i a).k = (c a).k ∧ lvE (hoE c i a) = lvE (c a) := by
  unfold hoE
  by_cases e : a = i
  · subst e
    rw [setE_same]
    refine ⟨rfl, rfl, rfl, rfl, ?_⟩
    rw [hv, lvE_iff]
    rw [lvE_iff] at hv
    show 0 < (c a).h + 1 + (c a).k
    omega
  · rw [setE_ne _ _ e]; exact ⟨rfl, rfl, rfl, rfl, rfl⟩
/-- Put of what may be put, where there is room. -/
theorem PutR.ok {c d : Nat → Ent} {m n : Nat} {s p q id er : Int} (h : PutR c m s p q id er d n) (hr : 0 ≤ s ∧ s < 8 ∧ 0 ≤ p ∧ p ≤ 1073741824) (hq : ParOk c s p q) (hm : m < 4096) :
    er = 0 ∧ ∃ i : Nat, id = (i : Int) ∧ Ky d s p q i ∧ (∀ s' p' q' j, Ky d s' p' q' j ↔ Ky c s' p' q' j ∨ (j = i ∧ s' = s ∧ p' = p ∧ q' = q)) ∧ ((n = m ∧ Ky c s p q i) ∨ (n = m + 1 ∧ ∀ j, ¬ Ky c s p q j)) := by
  cases h with
  | range a => exact absurd hr a
  | ref _ a1 a2 => exact (hq.ref a1 a2).elim
  | bad j _ a1 _ _ a4 => exact (hq.bad a1 a4).elim
  | full _ _ _ a => omega
  | again i _ _ a2 a3 a4 =>
    have hk : Ky c s p q i := ⟨a2, a3, a4⟩
    have key : ∀ s' p' q' j, Ky (hoE c i) s' p' q' j ↔ Ky c s' p' q' j := fun s' p' q' j => by
      obtain ⟨e1, e2, e3, _, e5⟩ := hoE_all c i j a3
      unfold Ky
      rw [e1, e2, e3, e5]
    refine ⟨rfl, i, rfl, (key _ _ _ _).2 hk, fun s' p' q' j => ?_, Or.inl ⟨rfl, hk⟩⟩
    rw [key]
    refine ⟨Or.inl, fun h => h.elim (fun h => h) fun ⟨h1, h2, h3, h4⟩ => ?_⟩
    rw [h1, h2, h3, h4]
    exact hk
  | more i _ _ a2 _ a4 a5 a6 =>
    have hat := adE_at (s := s) (p := p) (q := q) a5 hq
    have hk : Ky (adE c i s p q) s p q i := ⟨a4, by rw [hat]; rfl, by rw [hat], by rw [hat], by rw [hat]⟩
    refine ⟨rfl, i, rfl, hk, fun s' p' q' j => ?_, Or.inr ⟨rfl, fun j hj => a2 j hj.1 hj.2.1 hj.2.2⟩⟩
    by_cases e : j = i
    · subst e
      constructor
      · intro h
        obtain ⟨h1, h2, h3⟩ := h.key hk
        exact Or.inr ⟨rfl, h1, h2, h3⟩
      · rintro (h | ⟨_, h2, h3, h4⟩)
        · have := h.2.1
          rw [a5] at this; cases this
        · rw [h2, h3, h4]; exact hk
    · obtain ⟨e1, e2, e3, _, e5⟩ := adE_ne (s := s) (p := p) hq e
      unfold Ky
      rw [e1, e2, e3, e5]
      exact ⟨Or.inl, fun h => h.elim id fun h => absurd h.1 e⟩
/-- What was seen is what is there: chains of one, and of two. -/
structure ShI (c : Nat → Ent) (S : List (Int × Int)) : Prop where
  a : ∀ f, (f, -1) ∈ S ↔ ∃ i, Ky c 0 f (-1) i
  b : ∀ f g, g ≠ -1 → ((f, g) ∈ S ↔ ∃ i j : Nat, Ky c 0 f (-1) i ∧ Ky c 1 g (i : Int) j)
theorem ShI.empty : ShI (fun _ => zeE) [] where
  a := fun f => ⟨(fun h => by cases h), (fun ⟨i, h⟩ => by have := h.2.1; cases this)⟩
  b := fun f g _ => ⟨(fun h => by cases h), (fun ⟨i, j, h, _⟩ => by have := h.2.1; cases this)⟩
/-- Who is a parent is there. -/
theorem Ky.par {c : Nat → Ent} {m : Nat} {B s p : Int} {i j : Nat} (hI : BIv c (-1) m B) (h : Ky c s p (i : Int) j) : i < 4096 ∧ lvE (c i) = true := by
  rcases hI.par j h.1 (prE_lv _ h.2.1) with h1 | ⟨k, h1, h2, h3, _⟩
  · rw [h.2.2.2.2] at h1; omega
  · have : k = i := by rw [h.2.2.2.2] at h1; omega
    subst this
    exact ⟨h2, lv_kids hI h2 h3⟩
/-- Two more Puts. -/
theorem ShI.step {c c1 c2 : Nat → Ent} {S S' : List (Int × Int)} {m n1 n2 i j : Nat} {B f g : Int} (h : ShI c S) (hI : BIv c (-1) m B) (hI1 : BIv c1 (-1) n1 (B + 1)) (hg : g ≠ -1)
    (k1 : Ky c1 0 f (-1) i) (a1 : ∀ s' p' q' j, Ky c1 s' p' q' j ↔ Ky c s' p' q' j ∨ (j = i ∧ s' = 0 ∧ p' = f ∧ q' = -1)) (m1 : (n1 = m ∧ Ky c 0 f (-1) i) ∨ (n1 = m + 1 ∧ ∀ j, ¬ Ky c 0 f (-1) j))
    (k2 : Ky c2 1 g (i : Int) j) (a2 : ∀ s' p' q' x, Ky c2 s' p' q' x ↔ Ky c1 s' p' q' x ∨ (x = j ∧ s' = 1 ∧ p' = g ∧ q' = (i : Int))) (m2 : (n2 = n1 ∧ Ky c1 1 g (i : Int) j) ∨ (n2 = n1 + 1 ∧ ∀ x, ¬ Ky c1 1 g (i : Int) x))
    (hS : ∀ x, x ∈ S' ↔ (x ∈ S ∨ x = (f, -1)) ∨ x = (f, g)) :
    ShI c2 S' ∧ (n1 = if (f, -1) ∈ S then m else m + 1) ∧ (n2 = if (f, g) ∈ S then n1 else n1 + 1) ∧ IsWay c2 (j : Int) [(0, f), (1, g)] := by
  have q0 : ∀ f' x, Ky c2 0 f' (-1) x ↔ Ky c 0 f' (-1) x ∨ (x = i ∧ f' = f) := fun f' x => by
    rw [a2, a1]
    constructor
    · rintro ((h | ⟨h1, _, h2, _⟩) | ⟨_, h, _⟩)
      · exact Or.inl h
      · exact Or.inr ⟨h1, h2⟩
      · exact absurd h (by decide)
    · rintro (h | ⟨h1, h2⟩)
      · exact Or.inl (Or.inl h)
      · exact Or.inl (Or.inr ⟨h1, rfl, h2, rfl⟩)
  have q1 : ∀ g' (y : Int) z, Ky c1 1 g' y z ↔ Ky c 1 g' y z := fun g' y z => by
    rw [a1]
    constructor
    · rintro (h | ⟨_, h, _⟩)
      · exact h
      · exact absurd h (by decide)
    · exact Or.inl
  have q2 : ∀ g' (y : Int) z, Ky c2 1 g' y z ↔ Ky c 1 g' y z ∨ (z = j ∧ g' = g ∧ y = (i : Int)) := fun g' y z => by
    rw [a2, q1]
    constructor
    · rintro (h | ⟨h1, _, h2, h3⟩)
      · exact Or.inl h
      · exact Or.inr ⟨h1, h2, h3⟩
    · rintro (h | ⟨h1, h2, h3⟩)
      · exact Or.inl h
      · exact Or.inr ⟨h1, rfl, h2, h3⟩
  -- one that has a child was there already
  have old : ∀ g' z, Ky c 1 g' (i : Int) z → Ky c 0 f (-1) i := fun g' z hz => by
    obtain ⟨hi, hl⟩ := hz.par hI
    have hc : Ky c (c i).s (c i).p (c i).q i := ⟨hi, hl, rfl, rfl, rfl⟩
    obtain ⟨e1, e2, e3⟩ := ((a1 _ _ _ _).2 (Or.inl hc)).key k1
    exact ⟨hi, hl, e1, e2, e3⟩
  have sb : (f, g) ∈ S ↔ ∃ z, Ky c 1 g (i : Int) z := by
    rw [h.b f g hg]
    constructor
    · rintro ⟨x, z, hx, hz⟩
      have e : x = i := Ky.one hI1 ((a1 _ _ _ _).2 (Or.inl hx)) k1
      subst e
      exact ⟨z, hz⟩
    · rintro ⟨z, hz⟩
      exact ⟨i, z, old g z hz, hz⟩
  refine ⟨⟨fun f' => ?_, fun f' g' hg' => ?_⟩, ?_, ?_, ?_⟩
  · rw [hS]
    constructor
    · rintro ((h1 | h1) | h1)
      · obtain ⟨x, hx⟩ := (h.a f').1 h1
        exact ⟨x, (q0 _ _).2 (Or.inl hx)⟩
      · simp at h1
        exact ⟨i, (q0 _ _).2 (Or.inr ⟨rfl, h1⟩)⟩
      · simp at h1
        exact absurd h1.2.symm hg
    · rintro ⟨x, hx⟩
      rcases (q0 _ _).1 hx with h1 | ⟨_, h1⟩
      · exact Or.inl (Or.inl ((h.a f').2 ⟨x, h1⟩))
      · exact Or.inl (Or.inr (by rw [h1]))
  · rw [hS]
    constructor
    · rintro ((h1 | h1) | h1)
      · obtain ⟨x, z, hx, hz⟩ := (h.b f' g' hg').1 h1
        exact ⟨x, z, (q0 _ _).2 (Or.inl hx), (q2 _ _ _).2 (Or.inl hz)⟩
      · simp at h1
        exact absurd h1.2 hg'
      · simp at h1
        exact ⟨i, j, (q0 _ _).2 (Or.inr ⟨rfl, h1.1⟩), (q2 _ _ _).2 (Or.inr ⟨rfl, h1.2, rfl⟩)⟩
    · rintro ⟨x, z, hx, hz⟩
      rcases (q0 _ _).1 hx with h1 | ⟨h1, h2⟩
      · rcases (q2 _ _ _).1 hz with h3 | ⟨_, h4, h5⟩
        · exact Or.inl (Or.inl ((h.b f' g' hg').2 ⟨x, z, h1, h3⟩))
        · have e : x = i := by omega
          subst e
          have := ((a1 _ _ _ _).2 (Or.inl h1)).key k1
          exact Or.inr (by rw [this.2.1, h4])
      · subst h1
        rcases (q2 _ _ _).1 hz with h3 | ⟨_, h4, _⟩
        · exact Or.inl (Or.inl ((h.b f' g' hg').2 ⟨x, z, by rw [h2]; exact old g' z h3, h3⟩))
        · exact Or.inr (by rw [h2, h4])
  · rcases m1 with ⟨e, hk⟩ | ⟨e, hk⟩
    · rw [if_pos ((h.a f).2 ⟨i, hk⟩)]; exact e
    · rw [if_neg (fun hm => by obtain ⟨x, hx⟩ := (h.a f).1 hm; exact hk x hx)]; exact e
  · rcases m2 with ⟨e, hk⟩ | ⟨e, hk⟩
    · rw [if_pos (sb.2 ⟨j, (q1 _ _ _).1 hk⟩)]; exact e
    · rw [if_neg (fun hm => by obtain ⟨x, hx⟩ := sb.1 hm; exact hk x ((q1 _ _ _).2 hx))]; exact e
  · have e1 : Ky c2 0 f (-1) i := (a2 _ _ _ _).2 (Or.inl k1)
    have w1 := IsWay.some i [] e1.1 e1.2.1 (by rw [e1.2.2.2.2]; exact IsWay.none)
    have w2 := IsWay.some j _ k2.1 k2.2.1 (by rw [k2.2.2.2.2]; exact w1)
    rw [e1.2.2.1, e1.2.2.2.1, k2.2.2.1, k2.2.2.2.1] at w2
    exact w2
end Go.Proofs.Ythdfaidjdddagaa
namespace Go.Proofs.Ythdfaidjdddagaa
open Go.RowKit Go.Deep

/-- Pairs lie where the slice says. -/
def PrsAt (w : World) (ad : Option Addr) (l : List (Int × Int)) : Prop :=
  l ≠ [] → ∃ b off, ad = some ⟨b, off, none⟩ ∧ b < w.heap.size ∧ ∀ i (h : i < l.length), w.cell? ⟨b, off + i * 2, none⟩ = some (.int .i64 l[i].1) ∧ w.cell? ⟨b, off + i * 2 + 1, none⟩ = some (.int .i64 l[i].2)
theorem PrsAt.kp {w w' : World} {ad : Option Addr} {l : List (Int × Int)} (h : PrsAt w ad l) (hk : Kp [] w w') : PrsAt w' ad l := fun hl => by
  obtain ⟨b, off, e, hlt, hc⟩ := h hl
  refine ⟨b, off, e, Nat.lt_of_lt_of_le hlt hk.size, fun i hi => ?_⟩
  obtain ⟨c0, c1⟩ := hc i hi
  exact ⟨hk.cell c0 (by simp), hk.cell c1 (by simp)⟩
theorem PrsAt.at {w : World} {ad : Option Addr} {l : List (Int × Int)} (h : PrsAt w ad l) (i : Nat) (hi : i < l.length) : ∃ b off, ad = some ⟨b, off, none⟩ ∧ w.cell? ⟨b, off + i * 2, none⟩ = some (.int .i64 l[i].1) ∧ w.cell? ⟨b, off + i * 2 + 1, none⟩ = some (.int .i64 l[i].2) := by
  obtain ⟨b, off, e, hlt, hc⟩ := h (by intro e; subst e; simp at hi)
  exact ⟨b, off, e, hc i hi⟩
theorem open_pairs_cells : Try.prog.cellsOf 41 = 2 := by kernel_rfl
theorem open_pairs_cells_int : Try.prog.cellsOf 3 = 1 := by kernel_rfl
theorem open_pairs_list {α : Type} : ∀ (l : List α), l.length = 2 → ∃ x0 x1, l = [x0, x1]
  | [x0, x1], _ => ⟨x0, x1, rfl⟩
set_option maxRecDepth 100000 in
theorem open_pairs {H : Type} {enc : TypeId × Value → H} {W : World} {spare : Nat → Bool} {held : Bool} {fuel : Nat} {v : Value} {x : DataW H × List MemPlace}
    (h : DataW.trod enc Try.prog W 0 spare held fuel 37 [v] = some x) :
    ∃ (ad : Option Addr) (cap : Nat) (l : List (Int × Int)), v = .slice ad l.length cap ∧ l.length ≤ 9223372036854775807 ∧ PrsAt W ad l ∧ ∀ y ∈ l, (-9223372036854775808 ≤ y.1 ∧ y.1 ≤ 9223372036854775807) ∧ (-9223372036854775808 ≤ y.2 ∧ y.2 ≤ 9223372036854775807) := by
  rcases open_slice Try.underlying37 h with ⟨hcs, _⟩ | ⟨a, len, cap, m, n, D, Pl, hcs, hb, hl, hm, hmm, _, hx⟩
  · simp only [List.cons.injEq, and_true] at hcs
    subst hcs
    exact ⟨none, 0, [], rfl, by simp, fun hne => absurd rfl hne, by simp⟩
  · simp only [List.cons.injEq, and_true] at hcs
    subst hcs
    have hlm : len ≤ m := by rw [hmm]; split <;> omega
    have each : ∀ i, i < len → ∃ y : Int × Int, W.cell? (a.add (i * 2)) = some (.int .i64 y.1) ∧ W.cell? (a.add (i * 2 + 1)) = some (.int .i64 y.2) ∧ ((-9223372036854775808 ≤ y.1 ∧ y.1 ≤ 9223372036854775807) ∧ (-9223372036854775808 ≤ y.2 ∧ y.2 ≤ 9223372036854775807)) := by
      intro i hi
      obtain ⟨cs', h1, h2⟩ := hx i (by omega)
      rw [open_pairs_cells] at h1
      obtain ⟨_, hlen, hcell⟩ := World.cells?_some h1
      obtain ⟨xs, k, hk, hxy, _, hxl, hf⟩ := DataW.trod_array Try.underlying41 h2
      obtain ⟨y0, y1, rfl⟩ := open_pairs_list xs hxl
      obtain ⟨v0, v1, rfl⟩ := open_pairs_list cs' hlen
      have g0 := hf 0 (by decide)
      have g1 := hf 1 (by decide)
      simp [open_pairs_cells_int] at g0 g1
      have e0 := hcell 0 (by omega)
      have e1 := hcell 1 (by omega)
      rw [Go.Deep.add_add] at e0 e1
      obtain ⟨k0, q0, _, wf0⟩ := DataW.trod_int Try.underlying3 g0
      obtain ⟨k1, q1, _, wf1⟩ := DataW.trod_int Try.underlying3 g1
      simp only [List.cons.injEq, and_true] at q0 q1
      subst q0 q1
      have b0 := bounds_i64 wf0
      have b1 := bounds_i64 wf1
      exact ⟨⟨k0, k1⟩, by simpa using e0, by simpa using e1, ⟨b0.1, by show k0 ≤ _; omega⟩, ⟨b1.1, by show k1 ≤ _; omega⟩⟩
    have hinh : Inhabited (Int × Int) := ⟨⟨0, 0⟩⟩
    obtain ⟨q, hq⟩ := choose_lt each
    refine ⟨some a, cap, (List.range len).map q, by simp, by simp; unfold maxLen at hm; omega, fun hne => ?_, fun y hy => ?_⟩
    · have h0 : 0 < len := by
        rcases Nat.eq_zero_or_pos len with e | e
        · subst e; simp at hne
        · exact e
      obtain ⟨b, off, spot⟩ := a
      have hc0 := (hq 0 h0).1
      have hspot : spot = none := by simpa [Addr.add] using World.cell?_spot hc0
      subst hspot
      refine ⟨b, off, rfl, ?_, fun i hi => ?_⟩
      · rcases Nat.lt_or_ge b W.heap.size with hlt | hge
        · exact hlt
        · exfalso
          rw [Go.WideShapes.add_plain] at hc0
          simp [World.cell?, Array.getElem?_eq_none hge] at hc0
      · have hi' : i < len := by simpa using hi
        obtain ⟨c0, c1, _⟩ := hq i hi'
        rw [Go.WideShapes.add_plain] at c0 c1
        simp only [List.getElem_map, List.getElem_range]
        exact ⟨c0, by rw [Nat.add_assoc]; exact c1⟩
    · obtain ⟨i, hi, rfl⟩ := List.mem_map.1 hy
      exact (hq i (List.mem_range.1 hi)).2.2
end Go.Proofs.Ythdfaidjdddagaa
namespace Go.Proofs.Ythdfaidjdddagaa
open Go.RowKit

theorem lit2 (w : World) (f g : Int) : PrAt (w.alloc (.cells #[.int .i64 0, .int .i64 f, .int .i64 1, .int .i64 g] 41)) (.slice (some ⟨w.heap.size, 0, none⟩) 2 2) [(0, f), (1, g)] := by
  have h := CBox.new w #[.int .i64 0, .int .i64 f, .int .i64 1, .int .i64 g] 41
  refine ⟨_, _, rfl, fun i hi => ⟨_, rfl, ?_⟩⟩
  match i, hi with
  | 0, _ => exact ⟨h.cell rfl, h.cell rfl⟩
  | 1, _ => exact ⟨h.cell rfl, h.cell rfl⟩
/-- All that lies there between two chains. -/
structure ShS (w wr : World) (M n t : Nat) (c : Nat → Ent) (S : List (Int × Int)) : Prop where
  bu : Bu w.heap.size c (n : Int) wr
  iv : BIv c (-1) n (2 * (t : Int))
  sh : ShI c S
  st : SetQ wr M S
  kp : Kp [] w wr
set_option maxHeartbeats 600000 in
set_option maxRecDepth 100000 in
theorem bshares_walk (ad : Option Addr) (cp : Nat) (l : List (Int × Int)) (w : World) (_hl : l.length ≤ 9223372036854775807) (hA : PrsAt w ad l) (_hok : ∀ y ∈ l, (-9223372036854775808 ≤ y.1 ∧ y.1 ≤ 9223372036854775807) ∧ (-9223372036854775808 ≤ y.2 ∧ y.2 ≤ 9223372036854775807)) :
    Calls Try.prog 6 #[.slice ad l.length cp] w fun e w' => e = .returned (.bool true) ∧ Below w.heap.size w w' := by
  have NW := hide (buNew_any w)
  have HA := hide hA
  clear hA
  go_enter Try.func6, Try.ntmps6
  go_wp2_with fail
  refine (unhide NW).mono ?_
  rintro r w1 ⟨rfl, hb1, hk1⟩
  have HB1 := hide hb1
  have HK1 := hide hk1
  have WK := hide (bworks_any w1)
  clear NW hb1 hk1
  go_wp2_with fail
  refine (unhide WK).mono ?_
  rintro r w2 ⟨rfl, hk2⟩
  have hM : w.heap.size < w2.heap.size := Nat.lt_of_lt_of_le (unhide HB1).lt hk2.size
  have HS : Hid (ShS w (w2.alloc (.map #[] 0)) w2.heap.size 0 0 (fun _ => zeE) []) := hide ⟨((unhide HB1).kp hk2 (by simp)).kp (Kp.alloc _ _) (by simp), BIv.empty, ShI.empty, SetQ.new w2, ((unhide HK1).trans hk2 (by simp)).trans (Kp.alloc _ _) (by simp)⟩
  clear WK HB1 HK1 hk2
  have hmm : ∀ W : World, (Instr.makeMap 49 none).run Try.prog W = .ok (.map (some W.heap.size)) (W.alloc (.map #[] 0)) := fun W => run_makeMap _ W
  go_wp2_with fail
  clear hmm
  generalize w2.heap.size = M at *
  go_loopw [5, 6] (fun vm vi wr => ∃ (t n : Nat) (c : Nat → Ent) (S : List (Int × Int)), t ≤ 100 ∧ t ≤ l.length ∧ n ≤ 2 * t ∧ vi = .int .i64 (t : Int) ∧ vm = .int .i64 (n : Int) ∧ Hid (ShS w wr M n t c S)) (fun _ vi _ => 100 - (intOf vi).toNat)
  case atStart => exact ⟨0, 0, _, _, by decide, Nat.zero_le _, by decide, rfl, rfl, HS⟩
  case round =>
    clear HS
    obtain ⟨t, n, c, S, ht, htl, hnt, rfl, rfl, HS⟩ := hrel
    by_cases hcc : t < l.length ∧ t < 100
    · obtain ⟨h1, h2⟩ := hcc
      have i1 : (t : Int) < (l.length : Int) := by omega
      have i2 : (t : Int) < 100 := by omega
      obtain ⟨ba, oa, rfl, ca, cb⟩ := ((unhide HA).kp (unhide HS).kp).at t h1
      have A1 : Hid (∀ W, Calls Try.prog 9 #[.int .i64 l[t].1, .int .i64 5] W fun e w' => e = .returned (.int .i64 (l[t].1 % 5)) ∧ w' = W) := hide (fun W => buAmong_any _ 5 W (by decide) (by decide))
      have A2 : Hid (∀ W, Calls Try.prog 9 #[.int .i64 l[t].2, .int .i64 5] W fun e w' => e = .returned (.int .i64 (l[t].2 % 5)) ∧ w' = W) := hide (fun W => buAmong_any _ 5 W (by decide) (by decide))
      have hf0 := Int.emod_nonneg l[t].1 (b := 5) (by decide)
      have hf1 := Int.emod_lt_of_pos l[t].1 (b := 5) (by decide)
      have hg0 := Int.emod_nonneg l[t].2 (b := 5) (by decide)
      have hg1 := Int.emod_lt_of_pos l[t].2 (b := 5) (by decide)
      generalize l[t].1 % 5 = f at *
      generalize l[t].2 % 5 = g at *
      generalize l[t].1 = x1 at *
      generalize l[t].2 = x2 at *
      have hwg : IntKind.i64.wrap (10 + g) = 10 + g := by rw [IntKind.wrap_i64] <;> omega
      go_upto_region 9 with fail
      go_cut [7, 8] (fun v u wc => v = .int .i64 f ∧ u = .int .i64 (10 + g) ∧ Hid (Kp [] wr wc))
      case first =>
        go_region_with (go_at_call 9; first | ((with_reducible refine (unhide A1 _).mono ?_); rintro e w' ⟨rfl, rfl⟩) | ((with_reducible refine (unhide A2 _).mono ?_); rintro e w' ⟨rfl, rfl⟩))
        all_goals
          go_wp2_with fail
          go_meet
          exact ⟨rfl, rfl, hide (Kp.drew _)⟩
      case rest =>
        obtain ⟨rfl, rfl, HKc⟩ := hcut
        clear A1 A2 ca cb
        have HS : Hid (ShS w wc M n t c S) := hide ⟨(unhide HS).bu.kp (unhide HKc) (by simp), (unhide HS).iv, (unhide HS).sh, (unhide HS).st.kp (unhide HKc) (by simp), (unhide HS).kp.trans (unhide HKc) (by simp)⟩
        clear HKc
        generalize wc = w3 at *
        generalize hG : 10 + g = G at *
        have hG1 : 10 ≤ G := by omega
        have hG2 : G < 15 := by omega
        clear hwg hG hg0 hg1
        have PT := hide (put_any w.heap.size 0 f (-1) c n _ w3 (unhide HS).bu (unhide HS).iv (by omega))
        go_wp2_with fail
        refine (unhide PT).mono ?_
        rintro r w4 ⟨id1, er1, c1, n1, rfl, hR1, hb4, hk4⟩
        obtain ⟨rfl, i, rfl, k1, a1, m1⟩ := (unhide hR1).ok (by omega) (Or.inl rfl) (by omega)
        have hI1 := (unhide hR1).iv (unhide HS).iv (by omega)
        have hn1 : n1 ≤ n + 1 := by rcases m1 with ⟨e, _⟩ | ⟨e, _⟩ <;> omega
        have PT2 := hide (put_any w.heap.size 1 G (i : Int) c1 n1 _ w4 hb4 hI1 (by omega))
        have HR1 := hide (show _ ∧ _ ∧ _ ∧ _ from ⟨k1, a1, m1, hI1⟩)
        have HK4 := hide hk4
        clear PT hR1 hb4 hk4 a1 m1 hI1
        have HPO : Hid (ParOk c1 1 G (i : Int)) := hide (Or.inr ⟨i, rfl, k1.1, k1.2.1, by rw [k1.2.2.1]; decide, by rw [k1.2.2.2.1]; omega⟩)
        clear k1
        go_wp2_with fail
        refine (unhide PT2).mono ?_
        rintro r w5 ⟨id2, er2, c2, n2, rfl, hR2, hb5, hk5⟩
        obtain ⟨rfl, j, rfl, k2, a2, m2⟩ := (unhide hR2).ok (by omega) (unhide HPO) (by omega)
        have hI2 := (unhide hR2).iv (unhide HR1).2.2.2 (by omega)
        have hn2 : n2 ≤ n1 + 1 := by rcases m2 with ⟨e, _⟩ | ⟨e, _⟩ <;> omega
        have hMb : M ≠ w.heap.size := by omega
        have st5 : SetQ w5 M S := ((unhide HS).st.kp (unhide HK4) (by simpa using hMb)).kp hk5 (by simpa using hMb)
        have HK5 : Hid (Kp [] w w5) := hide (((unhide HS).kp.trans (unhide HK4) (by simp)).trans hk5 (by simp))
        have LK1 := st5.look (f, -1)
        have LK2 := st5.look (f, G)
        obtain ⟨w6, S6, U1, st6, hS6, ku6⟩ := st5.store (f, -1)
        obtain ⟨w7, S7, U2, st7, hS7, ku7⟩ := st6.store (f, G)
        obtain ⟨r1, r2, r3⟩ := unhide HR1
        have FIN := hide ((unhide HS).sh.step (unhide HS).iv r3.2 (by omega) r1 r2 r3.1 k2 a2 m2 (S' := S7) (fun x => by rw [hS7, hS6]))
        have HN1 : Hid (n1 = if hasQ S (f, -1) = true then n else n + 1) := hide (by have := (unhide FIN).2.1; rw [this]; simp only [hasQ_iff])
        have HN2 : Hid (n2 = if hasQ S (f, G) = true then n1 else n1 + 1) := hide (by have := (unhide FIN).2.2.1; rw [this]; simp only [hasQ_iff])
        have HB7 : Hid (Bu w.heap.size c2 (n2 : Int) w7) := hide ((hb5.kp ku6 (by simpa using Ne.symm hMb)).kp ku7 (by simpa using Ne.symm hMb))
        have HI2 := hide hI2
        have HST7 := hide st7
        have HK7 : Hid (Kp [] w w7) := hide (((unhide HK5).trans ku6 (by simp; omega)).trans ku7 (by simp; omega))
        have HKY := hide k2
        dsimp only at LK1 LK2 U1 U2
        generalize hasQ S (f, -1) = Q1 at *
        generalize hasQ S (f, G) = Q2 at *
        clear PT2 hR2 hb5 hk5 k2 a2 m2 hI2 st5 st6 st7 hS6 hS7 ku6 ku7 r1 r2 r3 HR1 HPO HK4 HK5 HS
        go_upto_if 69 with fail
        go_cut [5] (fun v wc => v = .int .i64 (n1 : Int) ∧ wc = w5)
        case first =>
          cases Q1 with
          | true =>
            go_wp2_with fail
            go_meet
            exact ⟨by have := unhide HN1; simp at this; rw [this], rfl⟩
          | false =>
            go_wp2_with fail
            go_meet
            exact ⟨by have := unhide HN1; simp at this; rw [this]; rfl, rfl⟩
        case rest =>
          obtain ⟨rfl, hw⟩ := hcut
          obtain rfl := hw.symm
          clear LK1 HN1
          go_upto_if 77 with fail
          go_cut [5] (fun v wc => v = .int .i64 (n2 : Int) ∧ wc = w5)
          case first =>
            cases Q2 with
            | true =>
              go_wp2_with fail
              go_meet
              exact ⟨by have := unhide HN2; simp at this; rw [this], rfl⟩
            | false =>
              go_wp2_with fail
              go_meet
              exact ⟨by have := unhide HN2; simp at this; rw [this]; rfl, rfl⟩
          case rest =>
            obtain ⟨rfl, hw⟩ := hcut
            obtain rfl := hw.symm
            clear LK2 HN2
            have WY := hide (buWay_ok w.heap.size j (unhide HKY).1 c2 n2 _ w7 (unhide HB7) (unhide HI2) (by omega) (unhide HKY).2.1)
            go_wp2_with fail
            refine (unhide WY).mono ?_
            rintro r w8 ⟨l8, v8, rfl, hw8, _, ho8, hk8⟩
            obtain rfl := IsWay.one (unhide FIN).2.2.2 (unhide hw8)
            have WS := hide (ways_any v8 _ [(0, f), (1, G)] [(0, f), (1, G)] (w8.alloc (.cells #[.int .i64 0, .int .i64 f, .int .i64 1, .int .i64 G] 41)) (ho8.read.kp0 (Kp.alloc _ _)) (lit2 w8 f G) (by simp) true (by simp))
            have HB8 := hide (((unhide HB7).kp hk8 (by simp)).kp (Kp.alloc _ (.cells #[.int .i64 0, .int .i64 f, .int .i64 1, .int .i64 G] 41)) (by simp))
            have HST8 := hide (((unhide HST7).kp hk8 (by simp)).kp (Kp.alloc _ (.cells #[.int .i64 0, .int .i64 f, .int .i64 1, .int .i64 G] 41)) (by simp))
            have HK8 := hide (((unhide HK7).trans hk8 (by simp)).trans (Kp.alloc _ (.cells #[.int .i64 0, .int .i64 f, .int .i64 1, .int .i64 G] 41)) (by simp))
            clear WY hw8 ho8 hk8 HB7 HST7 HK7 U1 U2
            go_wp2_with fail
            refine (unhide WS).mono ?_
            rintro r w9 ⟨rfl, hk9⟩
            have HS9 : Hid (ShS w w9 M n2 (t + 1) c2 S7) := hide ⟨(unhide HB8).kp hk9 (by simp), (unhide HI2).up (by omega), (unhide FIN).1, (unhide HST8).kp hk9 (by simp), (unhide HK8).trans hk9 (by simp)⟩
            have LN := hide (buLen_any w.heap.size _ _ w9 (unhide HS9).bu)
            clear WS hk9 HB8 HST8 HK8 FIN
            go_wp2_with fail
            refine (unhide LN).mono ?_
            rintro r w10 ⟨rfl, rfl⟩
            clear LN
            go_wp2_with fail
            go_roundw
            case rel => exact ⟨t + 1, n2, c2, S7, by omega, by omega, by omega, by go_num, rfl, HS9⟩
            case measure => simp [intOf]; omega
    · rcases (show ¬ (t : Int) < (l.length : Int) ∨ ((t : Int) < (l.length : Int) ∧ ¬ (t : Int) < 100) by omega) with i1 | ⟨i1, i2⟩
      all_goals
        go_wp2_with fail
        go_ret
        exact ⟨rfl, (unhide HS).kp.below (Nat.le_refl _) (by simp)⟩
end Go.Proofs.Ythdfaidjdddagaa
