/-
  A source beside rows of events that were read from it.
-/
import Derived.Test.YtkcbjjpbcgdabaaSoL
import Derived.Test.YtkcbjjpbcgdabaaSoM
import Derived.Test.YtkcbjjpbcgdabaaEvsIn
namespace Go.Proofs.Ytkcbjjpbcgdabaa
open Go.RowKit

theorem rowBlock {w : World} {B e s n k : Nat} {v : Value} {xs : List Value} (h : w.ownsRow B e s v n xs) (hk : v.ownBlock = some k) : ∃ cur, w.heap[k]? = some (.cells cur e (0, 0)) := by
  obtain ⟨_, ⟨rfl, h0⟩ | ⟨g, cp, cur, rfl, _, hh, _⟩⟩ := h
  · simp [Value.ownBlock] at hk
  · simp [Value.ownBlock] at hk
    subst hk
    exact ⟨cur, hh⟩
theorem rowKp1 {F : List Nat} {w w' : World} {B e s n : Nat} {v : Value} {xs : List Value} (h : w.ownsRow B e s v n xs) (hk : Kp F w w') (hF : ∀ k, v.ownBlock = some k → k ∉ F) : w'.ownsRow B e s v n xs := by
  obtain ⟨h1, h2 | ⟨g, cp, cur, rfl, hb, hh, r⟩⟩ := h
  · exact ⟨h1, Or.inl h2⟩
  · exact ⟨h1, Or.inr ⟨g, cp, cur, rfl, hb, (hk.block g (Array.getElem?_eq_some_iff.1 hh).1 (hF g rfl)).trans hh, r⟩⟩
/-- A source, the ends that it had, and a row of the rows that were read then. -/
structure StS (w0 w : World) (g be : Nat) (v : Value) (xs : List Value) (P ps : List (List Ev)) (X : List Nat) : Prop where
  src : ∃ F, SrcAt w g F ps ∧ ∀ k ∈ F, w0.heap.size ≤ k ∧ k ∉ X
  kp : Kp [] w0 w
  row : w.ownsRow 0 51 1 v xs.length xs
  inn : ∀ (i : Nat) (x : Value) (p : List Ev), xs[i]? = some x → P[i]? = some p → EvRow w x p
  ends : CBox be (intC (P.map List.length)).toArray 3 w
  bo : ∀ k, v.ownBlock = some k → k ∈ X
  bi : ∀ x ∈ xs, ∀ k, x.ownBlock = some k → k ∈ X
  be : be ∈ X
  lt : ∀ k ∈ X, w0.heap.size ≤ k ∧ k < w.heap.size
section
variable {w0 w w' : World} {g be : Nat} {v : Value} {xs : List Value} {P ps : List (List Ev)} {X : List Nat}
theorem StS.keep {F : List Nat} (h : StS w0 w g be v xs P ps X) (hk : Kp F w w') (hF : ∀ k ∈ X, k ∉ F) (h0 : ∀ k ∈ F, w0.heap.size ≤ k) {ps' : List (List Ev)} (hs : ∃ F', SrcAt w' g F' ps' ∧ ∀ k ∈ F', w0.heap.size ≤ k ∧ k ∉ X) : StS w0 w' g be v xs P ps' X :=
  ⟨hs, h.kp.trans hk (fun x hx => Or.inr (h0 x hx)), rowKp1 h.row hk (fun k hv => hF k (h.bo k hv)), fun i x p hx hp => (h.inn i x p hx hp).kp hk (fun k hv => hF k (h.bi x (List.mem_of_getElem? hx) k hv)), h.ends.kp hk (hF _ h.be), h.bo, h.bi, h.be, fun k hm => ⟨(h.lt k hm).1, Nat.lt_of_lt_of_le (h.lt k hm).2 hk.size⟩⟩
theorem StS.next (h : StS w0 w g be v xs P ps X) (hk : Kp [] w w') : StS w0 w' g be v xs P ps X := by
  obtain ⟨F, hd, hF⟩ := h.src
  exact h.keep hk (by simp) (by simp) ⟨F, hd.kp hk (by simp), hF⟩
theorem StS.put (h : StS w0 w g be v xs P ps X) (e : Ev) (hok : e.ok) : Calls Try.prog 16 #[.pointer (some ⟨g, 0, none⟩), .agg e.c] w fun r w' => (∃ a b c, r = .returned (.tuple #[.int .i64 a, .int .i64 b, .int .i64 c])) ∧ StS w0 w' g be v xs P (puS ps e) X := by
  obtain ⟨F, hd, hF⟩ := h.src
  refine (sput_any g F ps e w hd hok).mono fun r w' hh => ⟨⟨_, _, _, hh.1⟩, ?_⟩
  obtain ⟨F', hd', hk, hF'⟩ := hh.2
  refine h.keep hk (fun k hm hf => (hF k hf).2 hm) (fun k hf => (hF k hf).1) ⟨F', hd', fun k hm => ?_⟩
  rcases hF' k hm with h1 | h1
  · exact hF k h1
  · have := h.kp.size
    exact ⟨by omega, fun hx => by have := (h.lt k hx).2; omega⟩
theorem StS.srcV (h : StS w0 w g be v xs P ps X) : ∃ q vs, SrcV w g q vs ps := by
  obtain ⟨F, ⟨q, vs, h1, _⟩, _⟩ := h.src
  exact ⟨q, vs, h1⟩
theorem StS.read (h : StS w0 w g be v xs P ps X) (i f c : Int) (hi : inW i) (hf : inW f) : Calls Try.prog 18 #[.pointer (some ⟨g, 0, none⟩), .int .i64 i, .int .i64 f, .int .i64 c] w fun r w' => ∃ ad cap X', r = .returned (.tuple #[.slice ad (rdL ps i f c).length cap, .int .i64 (rdE ps i f c)]) ∧ EvRow w' (.slice ad (rdL ps i f c).length cap) (rdL ps i f c) ∧ (∀ k, (Value.slice ad (rdL ps i f c).length cap).ownBlock = some k → k ∈ X') ∧ (∀ k ∈ X, k ∈ X') ∧ StS w0 w' g be v xs P ps X' ∧ Kp [] w w' := by
  obtain ⟨q, vs, h1⟩ := h.srcV
  refine (read_any g q vs ps i f c w h1 hi hf).mono ?_
  rintro r w' ⟨x, rfl, hn, hk⟩
  obtain ⟨ad, cap, rfl, _⟩ := hn.1.form
  have h2 := h.next hk
  refine ⟨ad, cap, (Value.slice ad (rdL ps i f c).length cap).ownBlock.toList ++ X, rfl, hn.1, fun k hv => List.mem_append_left _ (by simpa using hv), fun k hm => List.mem_append_right _ hm, ?_, hk⟩
  obtain ⟨F, hd, hF⟩ := h.src
  refine ⟨⟨F, hd.kp hk (by simp), fun k hm => ⟨(hF k hm).1, fun hx => ?_⟩⟩, h2.kp, h2.row, h2.inn, h2.ends, fun k hv => List.mem_append_right _ (h.bo k hv), fun x hx k hv => List.mem_append_right _ (h.bi x hx k hv), List.mem_append_right _ h.be, fun k hm => ?_⟩
  · rcases List.mem_append.1 hx with h3 | h3
    · have := hn.2 k (by simpa using h3)
      have := hd.lt k hm
      omega
    · exact (hF k hm).2 h3
  · rcases List.mem_append.1 hm with h3 | h3
    · have h4 := hn.2 k (by simpa using h3)
      have h5 := hn.1.lt (k := k) (by simpa using h3)
      have := h.kp.size
      exact ⟨by omega, h5⟩
    · exact h2.lt k h3
theorem StS.push {x : Value} {o : Obj} {g7 m cap7 : Nat} {p : List Ev} (h : StS w0 w g be v xs P ps X) (hx : EvRow w x p) (hxX : ∀ k, x.ownBlock = some k → k ∈ X) (hp : P[xs.length]? = some p)
    (hown : w'.ownsRow 0 51 1 (.slice (some ⟨g7, 0, none⟩) m cap7) (xs.length + 1) (xs ++ [x])) (hg : (w.alloc o).grownBy w' v.ownBlock) (hat : v.ownBlock = some g7 ∨ g7 = (w.alloc o).heap.size) : StS w0 w' g be (.slice (some ⟨g7, 0, none⟩) m cap7) (xs ++ [x]) P ps (g7 :: X) := by
  have ha := Kp.alloc w o
  have hz : (w.alloc o).heap.size = w.heap.size + 1 := by simp
  have hA := h.next ha
  have hk2 := Kp.of hg
  have hvb : ∀ k, k ∈ v.ownBlock.toList → k ∈ X := fun k hk => h.bo k (by simpa using hk)
  have hty : ∀ (y : Value) (q : List Ev) (k : Nat), EvRow (w.alloc o) y q → y.ownBlock = some k → k ∉ v.ownBlock.toList := fun y q k hy hk hm => by
    obtain ⟨c1, e1⟩ := hy.block hk
    obtain ⟨c2, e2⟩ := rowBlock hA.row (k := k) (by simpa using hm)
    rw [e1] at e2
    injection e2 with e; injection e with _ e; exact absurd e (by decide)
  have hx2 := hx.kp ha (by simp)
  obtain ⟨F, hd, hF⟩ := hA.src
  have h0 := h.kp.size
  have hglt : g7 < w'.heap.size := (World.ownsRow.lt hown g7 rfl).2
  have hbe : be ∉ v.ownBlock.toList := fun hm => by
    obtain ⟨c2, e2⟩ := rowBlock hA.row (k := be) (by simpa using hm)
    have hb : (w.alloc o).heap[be]? = _ := hA.ends
    rw [hb] at e2
    injection e2 with e; injection e with _ e; exact absurd e (by decide)
  refine ⟨⟨F, hd.kp hk2 (fun k hm hv => (hF k hm).2 (hvb k hv)), fun k hm => ⟨(hF k hm).1, fun hn => ?_⟩⟩, hA.kp.trans hk2 (fun k hv => Or.inr (h.lt k (hvb k hv)).1), by rw [List.length_append]; exact hown, ?_, hA.ends.kp hk2 hbe, ?_, ?_, List.mem_cons_of_mem _ h.be, ?_⟩
  · rw [List.mem_cons] at hn
    rcases hn with rfl | hn
    · rcases hat with h1 | h1
      · exact (hF k hm).2 (h.bo k h1)
      · have := hd.lt k hm; omega
    · exact (hF k hm).2 hn
  · intro i y q hy hq
    by_cases hi : i < xs.length
    · rw [List.getElem?_append_left hi] at hy
      exact (hA.inn i y q hy hq).kp hk2 (fun k hk => hty y q k (hA.inn i y q hy hq) hk)
    · obtain rfl : i = xs.length := by
        have := (List.getElem?_eq_some_iff.1 hy).1
        rw [List.length_append] at this
        simp at this; omega
      rw [List.getElem?_append_right (Nat.le_refl _), Nat.sub_self] at hy
      simp at hy
      subst hy
      rw [hp] at hq
      injection hq with hq
      subst hq
      exact hx2.kp hk2 (fun k hk => hty x p k hx2 hk)
  · intro k hk
    have e1 : g7 = k := by simpa [Value.ownBlock] using hk
    subst e1; exact List.mem_cons_self
  · intro y hy k hk
    rcases List.mem_append.1 hy with h1 | h1
    · exact List.mem_cons_of_mem _ (h.bi y h1 k hk)
    · rw [List.mem_singleton] at h1
      subst h1
      exact List.mem_cons_of_mem _ (hxX k hk)
  · intro k hm
    rw [List.mem_cons] at hm
    rcases hm with rfl | hm
    · rcases hat with h1 | h1
      · exact ⟨(h.lt k (h.bo k h1)).1, hglt⟩
      · exact ⟨by omega, hglt⟩
    · have := hk2.size
      exact ⟨(h.lt k hm).1, by have := (h.lt k hm).2; omega⟩
end
/-- Each partition has begun as it was. -/
def Grew (P ps : List (List Ev)) : Prop := P.length = ps.length ∧ ∀ (i : Nat) (p q : List Ev), P[i]? = some p → ps[i]? = some q → p <+: q
theorem Grew.refl (P : List (List Ev)) : Grew P P := ⟨rfl, fun i p q hp hq => by rw [hp] at hq; injection hq with e; subst e; exact List.prefix_refl _⟩
theorem Grew.put {P ps : List (List Ev)} (h : Grew P ps) (e : Ev) : Grew P (puS ps e) := by
  refine ⟨by rw [puS_len]; exact h.1, fun i p q hp hq => ?_⟩
  unfold puS at hq
  split at hq
  · unfold soAdd at hq
    rw [List.getElem?_set] at hq
    split at hq
    · rename_i hpi
      subst hpi
      split at hq
      · rename_i hlt
        simp at hq
        subst hq
        have := h.2 _ p _ hp (List.getElem?_eq_getElem hlt)
        rw [List.getElem?_eq_getElem hlt]
        exact this.trans (List.prefix_append _ _)
      · cases hq
    · exact h.2 i p q hp hq
  · exact h.2 i p q hp hq
end Go.Proofs.Ytkcbjjpbcgdabaa
