/-
  SourcePlays: both sources beside one another.
-/
import Derived.Test.YtnikkjbjidhhlaaSoK
import Derived.Test.YtnikkjbjidhhlaaSoL
import Derived.Test.YtnikkjbjidhhlaaRsD
import Derived.Test.YtnikkjbjidhhlaaRsE
import Derived.Test.YtnikkjbjidhhlaaRsF
import Derived.Test.YtnikkjbjidhhlaaRsG
namespace Go.Proofs.Ytnikkjbjidhhlaa
open Go.RowKit

structure PlT (w W : World) (g1 g2 : Nat) (p1 p2 : List (List Ev)) : Prop where
  kp : Kp [] w W
  two : ∃ (F : List Nat) (q : Nat) (vs : List Value), SrcAt W g1 F p1 ∧ RsV W g2 q vs p2 ∧ (∀ k ∈ F, w.heap.size ≤ k) ∧ (∀ k ∈ soF g2 q vs, w.heap.size ≤ k) ∧ ∀ k ∈ F, k ∉ soF g2 q vs
theorem RsV.lt {w : World} {g q : Nat} {vs : List Value} {ps : List (List Ev)} (h : RsV w g q vs ps) : ∀ k ∈ soF g q vs, k < w.heap.size := fun k hk => by
  unfold soF at hk
  rcases List.mem_cons.1 hk with rfl | hk
  · exact (Array.getElem?_eq_some_iff.1 h.box).1
  rcases List.mem_cons.1 hk with rfl | hk
  · exact (Array.getElem?_eq_some_iff.1 h.row).1
  obtain ⟨v, hv, hb⟩ := List.mem_filterMap.1 hk
  obtain ⟨i, hi, rfl⟩ := List.getElem_of_mem hv
  exact (h.inn i vs[i] (ps[i]'(by rw [← h.len]; exact hi)) (List.getElem?_eq_getElem hi) (List.getElem?_eq_getElem _)).lt hb
/-- No block of a source is an act's. -/
theorem SrcAt.noAct {w : World} {g : Nat} {F : List Nat} {ps : List (List Ev)} (h : SrcAt w g F ps) : ∀ k ∈ F, ∀ cs, ¬ CBox k cs 47 w := fun k hk cs hb => by
  obtain ⟨q, vs, h1, rfl⟩ := h
  have hy : w.heap[k]? = _ := hb
  unfold soF at hk
  rcases List.mem_cons.1 hk with rfl | hk
  · have hx : w.heap[k]? = _ := h1.box
    rw [hy] at hx
    injection hx with e; injection e with _ e; exact absurd e (by decide)
  rcases List.mem_cons.1 hk with rfl | hk
  · have hx : w.heap[k]? = _ := h1.row
    rw [hy] at hx
    injection hx with e; injection e with _ e; exact absurd e (by decide)
  obtain ⟨v, hv, hbk⟩ := List.mem_filterMap.1 hk
  obtain ⟨i, hi, rfl⟩ := List.getElem_of_mem hv
  obtain ⟨cur, hx⟩ := (h1.inn i vs[i] (ps[i]'(by rw [← h1.len]; exact hi)) (List.getElem?_eq_getElem hi) (List.getElem?_eq_getElem _)).block hbk
  rw [hy] at hx
  injection hx with e; injection e with _ e; exact absurd e (by decide)
/-- What the document's Put promises. -/
def RefPut : Prop := ∀ (g q : Nat) (vs : List Value) (ps : List (List Ev)) (e : Ev) (w : World), RsV w g q vs ps → e.ok →
  Calls Try.prog 17 #[.pointer (some ⟨g, 0, none⟩), .agg e.c] w fun r w' => r = .returned (.tuple #[.int .i64 (puA ps e), .int .i64 (puO ps e), .int .i64 (puE ps e)]) ∧ ∃ vs', RsV w' g q vs' (puS ps e) ∧ Kp [q] w w' ∧ ∀ k ∈ soF g q vs', k ∈ soF g q vs ∨ w.heap.size ≤ k
section
variable {w W : World} {g1 g2 : Nat} {p1 p2 : List (List Ev)}
theorem PlT.on (h : PlT w W g1 g2 p1 p2) {W' : World} (hk : Kp [] W W') : PlT w W' g1 g2 p1 p2 := by
  obtain ⟨k, F, q, vs, a, b, c, d, e⟩ := h
  exact ⟨k.trans hk (by simp), F, q, vs, a.kp hk (by simp), b.kp hk (by simp), c, d, e⟩
/-- What came behind it may be written over. -/
theorem PlT.spoil (h : PlT w W g1 g2 p1 p2) {W1 W2 : World} {G : List Nat} (hk : Kp [] W W1) (hG : Kp G W1 W2) (hb : ∀ b ∈ G, W.heap.size ≤ b) : PlT w W2 g1 g2 p1 p2 := by
  obtain ⟨k, F, q, vs, a, b, c, d, e⟩ := h
  have hs := k.size
  refine ⟨(k.trans hk (by simp)).trans hG (fun x hx => Or.inr (by have := hb x hx; omega)), F, q, vs, (a.kp hk (by simp)).kp hG ?_, (b.kp hk (by simp)).kp hG ?_, c, d, e⟩
  · intro x hx hm
    have h1 := a.lt x hx
    have h2 := hb x hm
    omega
  · intro x hx hm
    have h1 := b.lt x hx
    have h2 := hb x hm
    omega
theorem PlT.put1 (h : PlT w W g1 g2 p1 p2) (e : Ev) (hok : e.ok) : Calls Try.prog 16 #[.pointer (some ⟨g1, 0, none⟩), .agg e.c] W fun r w' => r = .returned (.tuple #[.int .i64 (puA p1 e), .int .i64 (puO p1 e), .int .i64 (puE p1 e)]) ∧ PlT w w' g1 g2 (puS p1 e) p2 ∧ ∀ b cs, CBox b cs 47 W → CBox b cs 47 w' := by
  obtain ⟨k, F, q, vs, a, b, c, d, ap⟩ := h
  refine (sput_any g1 F p1 e W a hok).mono ?_
  rintro r w' ⟨rfl, F', a', kf, hF'⟩
  have hs := k.size
  refine ⟨rfl, ⟨k.trans kf (fun x hx => Or.inr (c x hx)), F', q, vs, a', b.kp kf (fun x hx hm => ap x hm hx), ?_, d, ?_⟩, fun b cs hb => hb.kp kf (fun hm => a.noAct b hm cs hb)⟩
  · intro x hx
    rcases hF' x hx with h1 | h1
    · exact c x h1
    · omega
  · intro x hx hm
    rcases hF' x hx with h1 | h1
    · exact ap x h1 hm
    · have := b.lt x hm; omega
theorem PlT.put2 (RP : RefPut) (h : PlT w W g1 g2 p1 p2) (e : Ev) (hok : e.ok) : Calls Try.prog 17 #[.pointer (some ⟨g2, 0, none⟩), .agg e.c] W fun r w' => r = .returned (.tuple #[.int .i64 (puA p2 e), .int .i64 (puO p2 e), .int .i64 (puE p2 e)]) ∧ PlT w w' g1 g2 p1 (puS p2 e) ∧ ∀ b cs, CBox b cs 47 W → CBox b cs 47 w' := by
  obtain ⟨k, F, q, vs, a, b, c, d, ap⟩ := h
  refine (RP g2 q vs p2 e W b hok).mono ?_
  rintro r w' ⟨rfl, vs', b', kq, hv⟩
  have hs := k.size
  have hq : q ∈ soF g2 q vs := by simp [soF]
  refine ⟨rfl, ⟨k.trans kq (fun x hx => Or.inr (by rw [List.mem_singleton] at hx; rw [hx]; exact d q hq)), F, q, vs', a.kp kq (fun x hx hm => by rw [List.mem_singleton] at hm; subst hm; exact ap x hx hq), b', c, ?_, ?_⟩, fun b0 cs hb => hb.kp kq (fun hm => by
    rw [List.mem_singleton] at hm
    subst hm
    have hx : W.heap[b0]? = _ := b.row
    have hy : W.heap[b0]? = _ := hb
    rw [hy] at hx
    injection hx with e; injection e with _ e; exact absurd e (by decide))⟩
  · intro x hx
    rcases hv x hx with h1 | h1
    · exact d x h1
    · omega
  · intro x hx hm
    rcases hv x hm with h1 | h1
    · exact ap x hx h1
    · have := a.lt x hx; omega
theorem PlT.srcs (h : PlT w W g1 g2 p1 p2) : (∃ q vs, SrcV W g1 q vs p1) ∧ ∃ q vs, RsV W g2 q vs p2 := by
  obtain ⟨_, F, q, vs, ⟨q1, vs1, a, _⟩, b, _⟩ := h
  exact ⟨⟨q1, vs1, a⟩, q, vs, b⟩
end
/-- Both begin alike. -/
theorem PlT.start (n : Nat) (w W1 W2 : World) (k1 : Kp [] w W1) (hs : SrcV W1 (w.heap.size + 1) w.heap.size (List.replicate n (.slice none 0 0)) (soNew n)) (k2 : Kp [] W1 W2) (hr : RsV W2 (W1.heap.size + 1) W1.heap.size (List.replicate n (.slice none 0 0)) (soNew n)) :
    PlT w W2 (w.heap.size + 1) (W1.heap.size + 1) (soNew n) (soNew n) := by
  have hf : ∀ g q, soF g q (List.replicate n (.slice none 0 0)) = [g, q] := fun g q => by
    unfold soF
    congr 2
    rw [List.filterMap_eq_nil_iff]
    intro v hv
    rw [List.mem_replicate] at hv
    rw [hv.2]
    rfl
  have hlt := hs.lt
  have hz := k1.size
  rw [hf] at hlt
  have l1 := hlt (w.heap.size + 1) (by simp)
  refine ⟨k1.trans k2 (by simp), _, _, _, ⟨_, _, hs.kp k2 (by simp), rfl⟩, hr, ?_, ?_, ?_⟩
  · intro k hk
    rw [hf] at hk
    simp at hk
    omega
  · intro k hk
    rw [hf] at hk
    simp at hk
    omega
  · intro k hk hm
    rw [hf] at hk hm
    simp at hk hm
    omega
/-- Numbers of a row, as they lie. -/
def lensI (ps : List (List Ev)) : List Int := ps.map fun p => (p.length : Int)
theorem lensI_len (ps : List (List Ev)) : (lensI ps).length = ps.length := by unfold lensI; simp
theorem intC_at {ps : List (List Ev)} {i : Nat} (hi : i < (lensI ps).length) : (intC (ps.map List.length))[i]? = some (.int .i64 (lensI ps)[i]) := by
  have h : i < ps.length := by rw [lensI_len] at hi; exact hi
  have e : (lensI ps)[i] = (ps[i].length : Int) := by simp [lensI]
  rw [e]
  unfold intC
  simp [h]
theorem ends_ints {w : World} {b : Nat} {ps : List (List Ev)} (h : CBox b (intC (ps.map List.length)).toArray 3 w) : IntsAt w (some ⟨b, 0, none⟩) (lensI ps) := fun _ => by
  refine ⟨b, 0, rfl, (Array.getElem?_eq_some_iff.1 h).1, fun i hi => ?_⟩
  rw [Nat.zero_add]
  exact h.cell (by simpa using intC_at hi)
theorem ends_own {w : World} {B : Nat} {v : Value} {ps : List (List Ev)} (h : w.ownsRow B 3 1 v ps.length (intC (ps.map List.length))) : ∃ a c, v = .slice a (lensI ps).length c ∧ IntsAt w a (lensI ps) := by
  obtain ⟨h0, ⟨rfl, h1⟩ | ⟨g', cap', cur, rfl, hg, hh, h2, h3, h4, h5⟩⟩ := h
  · exact ⟨none, 0, by rw [lensI_len, h1], fun hne => absurd (List.eq_nil_of_length_eq_zero (by rw [lensI_len]; exact h1)) hne⟩
  · refine ⟨_, cap', by rw [lensI_len], fun _ => ⟨g', 0, rfl, (Array.getElem?_eq_some_iff.1 hh).1, fun i hi => ?_⟩⟩
    have hx := intC_at hi
    rw [← h5, List.getElem?_take_of_lt (by rw [lensI_len] at hi; omega)] at hx
    simp at hx
    rw [Nat.zero_add]
    simp [World.cell?, hh, hx]
theorem rdL_le {ps : List (List Ev)} (hl : ∀ p ∈ ps, p.length ≤ 4096) (i f c : Int) : (rdL ps i f c).length ≤ 4096 := by
  unfold rdL
  split
  · rw [List.length_take, List.length_drop]
    have : (ps[i.toNat]?.getD []).length ≤ 4096 := by
      cases e : ps[i.toNat]? with
      | none => simp
      | some p => exact hl p (List.mem_of_getElem? e)
    omega
  · simp
theorem bwL_le {ps : List (List Ev)} (hl : ∀ p ∈ ps, p.length ≤ 4096) (k : ByteArray) (os : List Int) : (bwL k ps os).length ≤ 4096 := by
  unfold bwL
  split
  · have : (ps[partOf ps.length k]?.getD []).length ≤ 4096 := by
      cases e : ps[partOf ps.length k]? with
      | none => simp
      | some p => exact hl p (List.mem_of_getElem? e)
    generalize (ps[partOf ps.length k]?.getD []) = p at *
    have h1 : ∀ l : List Ev, (keyL k l).length ≤ l.length := fun l => by unfold keyL; exact List.length_filter_le _ _
    have h2 := h1 (p.take (os[partOf ps.length k]?.getD 0).toNat)
    rw [List.length_take] at h2
    omega
  · simp
theorem PlT.lim {w W : World} {g1 g2 : Nat} {p1 p2 : List (List Ev)} (h : PlT w W g1 g2 p1 p2) : ∀ p ∈ p2, p.length ≤ 4096 := let ⟨_, _, _, b⟩ := h.srcs; b.lim
/-- A row of events that is written over. -/
theorem EvNew.spoilt {w W : World} {v : Value} {l : List Ev} (h : EvNew w W v l) : ∃ ad cap, v = .slice ad l.length cap ∧ EvsAt W ad l ∧ (l ≠ [] → ∃ (g : Nat) (cs : Array Value), ad = some ⟨g, 0, none⟩ ∧ w.heap.size ≤ g ∧ CBox g cs 45 W ∧ l.length * 7 ≤ cs.size) := by
  obtain ⟨hr, hb⟩ := h
  obtain ⟨ad, cap, rfl, _⟩ := hr.form
  refine ⟨ad, cap, rfl, hr.evs, fun hne => ?_⟩
  obtain ⟨h0, ⟨e, h1⟩ | ⟨g', cap', cur, e, hg, hh, h2, h3, h4, h5⟩⟩ := id hr
  · exact absurd (List.eq_nil_of_length_eq_zero h1) hne
  · injection e with e1 e2 e3
    subst e1
    exact ⟨g', cur, rfl, hb g' rfl, hh, by rw [h4]; exact Nat.mul_le_mul_right 7 h2⟩
end Go.Proofs.Ytnikkjbjidhhlaa
