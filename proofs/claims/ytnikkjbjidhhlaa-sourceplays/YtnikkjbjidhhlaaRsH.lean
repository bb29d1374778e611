/-
  The document's Put.
-/
import Derived.Test.YtnikkjbjidhhlaaRsB
import Derived.Test.YtnikkjbjidhhlaaSoE
import Derived.Test.YtnikkjbjidhhlaaKp1
import Derived.Deep.RegionHeld3
import Derived.Deep.RegionLaw
import Derived.Deep.DeepCutAuto
namespace Go.Proofs.Ytnikkjbjidhhlaa
open Go.RowKit

/-- A partition is another row now. -/
theorem rput_of {w W : World} {g q i : Nat} {vs : List Value} {ps : List (List Ev)} {e : Ev} (h : RsV w g q vs ps) (hk : Kp [] w W) (hi : i < ps.length) (hl : ps[i].length < 4096) {g7 cap7 : Nat} (hr : W.ownsRow 0 45 7 (.slice (some ⟨g7, 0, none⟩) (ps[i].length + 1) cap7) (ps[i].length + 1) (evC ps[i] ++ e.c.toList)) (hg : w.heap.size ≤ g7) :
    RsV (W.setCell ⟨q, i, none⟩ (.slice (some ⟨g7, 0, none⟩) (ps[i].length + 1) cap7)) g q (vs.set i (.slice (some ⟨g7, 0, none⟩) (ps[i].length + 1) cap7)) (soAdd ps i e) ∧ Kp [q] w (W.setCell ⟨q, i, none⟩ (.slice (some ⟨g7, 0, none⟩) (ps[i].length + 1) cap7)) ∧ ∀ k ∈ soF g q (vs.set i (.slice (some ⟨g7, 0, none⟩) (ps[i].length + 1) cap7)), k ∈ soF g q vs ∨ w.heap.size ≤ k := by
  have h1 := h.kp hk (by simp)
  have hs := Kp.set W q i (.slice (some ⟨g7, 0, none⟩) (ps[i].length + 1) cap7)
  have hgq : g ≠ q := by
    rintro rfl
    have hb : w.heap[g]? = _ := h.box
    have hc : w.heap[g]? = _ := h.row
    rw [hc] at hb
    injection hb with e; injection e with _ e; exact absurd e (by decide)
  have hlen : (soAdd ps i e).length = ps.length := by unfold soAdd; simp
  have hget : (ps[i]?.getD []) = ps[i] := by rw [List.getElem?_eq_getElem hi]; rfl
  have hqlt : q < w.heap.size := (Array.getElem?_eq_some_iff.1 h.row).1
  have hev : EvRow W (.slice (some ⟨g7, 0, none⟩) (ps[i].length + 1) cap7) (ps[i] ++ [e]) := by
    unfold EvRow
    have e1 : evC (ps[i] ++ [e]) = evC ps[i] ++ e.c.toList := by rw [evC_append]; unfold evC; simp
    rw [List.length_append, e1]
    exact hr
  have hnb : ∀ {v : Value} {l : List Ev}, EvRow W v l → ∀ k, v.ownBlock = some k → k ∉ [q] := fun {v l} hv k hk1 hm => by
    rw [List.mem_singleton] at hm
    subst hm
    obtain ⟨cur, hc⟩ := hv.block hk1
    have hx : W.heap[k]? = _ := h1.row
    rw [hc] at hx
    injection hx with e; injection e with _ e; exact absurd e (by decide)
  refine ⟨⟨?_, ?_, ?_, ?_, ?_, ?_, ?_⟩, (hk.mono (by simp)).trans hs (fun x hx => Or.inl hx), ?_⟩
  · rw [hlen]; exact h1.box.kp hs (by simpa using hgq)
  · have := h1.row.set i (.slice (some ⟨g7, 0, none⟩) (ps[i].length + 1) cap7)
    simpa using this
  · rw [List.length_set, hlen]; exact h.len
  · rw [hlen]; exact h.pos
  · rw [hlen]; exact h.few
  · intro j v p hv hp
    unfold soAdd at hp
    by_cases hj : i = j
    · subst hj
      rw [List.getElem?_set_self (by rw [h.len]; exact hi)] at hv
      rw [List.getElem?_set_self hi, hget] at hp
      simp at hv hp
      subst hv hp
      exact hev.kp hs (hnb hev)
    · rw [List.getElem?_set_ne hj] at hv hp
      have := h1.inn j v p hv hp
      exact this.kp hs (hnb this)
  · intro p hp
    unfold soAdd at hp
    rcases List.mem_or_eq_of_mem_set hp with hp | rfl
    · exact h.lim p hp
    · rw [hget, List.length_append]; simp; omega
  · intro k hk1
    unfold soF at hk1 ⊢
    rcases List.mem_cons.1 hk1 with e | hk1
    · exact Or.inl (by rw [e]; exact List.mem_cons_self)
    rcases List.mem_cons.1 hk1 with e | hk1
    · exact Or.inl (by rw [e]; exact List.mem_cons_of_mem _ List.mem_cons_self)
    obtain ⟨v, hv, hb⟩ := List.mem_filterMap.1 hk1
    rcases List.mem_or_eq_of_mem_set hv with hv | rfl
    · exact Or.inl (List.mem_cons_of_mem _ (List.mem_cons_of_mem _ (List.mem_filterMap.2 ⟨v, hv, hb⟩)))
    · simp [Value.ownBlock] at hb
      subst hb
      exact Or.inr hg
theorem evs_src {w : World} {ad : Option Addr} {l : List Ev} {m cap : Nat} (h : EvRow w (.slice ad m cap) l) : (∀ a, ad = some a → a.spot = none) ∧ (ad = none → m = 0 ∧ cap = 0) ∧ ∀ a, ad = some a → ∀ j u, (evC l)[j]? = some u → w.cell? (a.add j) = some u := by
  obtain ⟨h0, ⟨e, h1⟩ | ⟨g', cap', cur, e, hg, hh, h2, h3, h4, h5⟩⟩ := id h
  · injection e with e1 e2 e3
    subst e1 e3
    exact ⟨(fun a ha => by cases ha), (fun _ => ⟨by omega, rfl⟩), (fun a ha => by cases ha)⟩
  · injection e with e1 e2 e3
    subst e1
    refine ⟨fun a ha => (by injection ha with ha; subst ha; rfl), (fun ha => by cases ha), fun a ha j u hu => ?_⟩
    injection ha with ha
    subst ha
    have hj : j < l.length * 7 := by
      have := (List.getElem?_eq_some_iff.1 hu).1
      rw [h0] at this
      exact this
    rw [← h5, List.getElem?_take_of_lt hj] at hu
    simp at hu
    rw [Go.WideShapes.add_plain, Nat.zero_add]
    simp [World.cell?, hh, hu]
end Go.Proofs.Ytnikkjbjidhhlaa
