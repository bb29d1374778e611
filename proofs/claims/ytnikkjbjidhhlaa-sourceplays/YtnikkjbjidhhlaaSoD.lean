/-
  A source: Put.
-/
import Derived.Test.YtnikkjbjidhhlaaSoC
namespace Go.Proofs.Ytnikkjbjidhhlaa
open Go.RowKit

/-- A source lies at g; its blocks are F. -/
def SrcAt (w : World) (g : Nat) (F : List Nat) (ps : List (List Ev)) : Prop := ∃ q vs, SrcV w g q vs ps ∧ F = soF g q vs
/-- Something has been done to a source. -/
def SDid (w : World) (F : List Nat) (g : Nat) (ps : List (List Ev)) (w' : World) : Prop := ∃ F', SrcAt w' g F' ps ∧ Kp F w w' ∧ ∀ k ∈ F', k ∈ F ∨ w.heap.size ≤ k
theorem SrcAt.kp {G F : List Nat} {w w' : World} {g : Nat} {ps : List (List Ev)} (h : SrcAt w g F ps) (hk : Kp G w w') (hF : ∀ k ∈ F, k ∉ G) : SrcAt w' g F ps := by
  obtain ⟨q, vs, h1, rfl⟩ := h
  exact ⟨q, vs, h1.kp hk hF, rfl⟩
theorem SrcAt.lt {F : List Nat} {w : World} {g : Nat} {ps : List (List Ev)} (h : SrcAt w g F ps) : ∀ k ∈ F, k < w.heap.size := by
  obtain ⟨q, vs, h1, rfl⟩ := h
  exact h1.lt
theorem SDid.pre {F : List Nat} {w w1 w' : World} {g : Nat} {ps : List (List Ev)} (hk : Kp [] w w1) (h : SDid w1 F g ps w') : SDid w F g ps w' := by
  obtain ⟨F', h1, h2, h3⟩ := h
  refine ⟨F', h1, (hk.mono (by simp)).trans h2 (fun x hx => Or.inl hx), fun k hk1 => ?_⟩
  have := hk.size
  rcases h3 k hk1 with h4 | h4
  · exact Or.inl h4
  · exact Or.inr (by omega)
theorem SrcAt.did {F : List Nat} {w w' : World} {g : Nat} {ps : List (List Ev)} (h : SrcAt w g F ps) (hk : Kp [] w w') : SDid w F g ps w' := ⟨F, h.kp hk (by simp), hk.mono (by simp), fun _ h => Or.inl h⟩
/-- An event is put at the end of its partition. -/
def soAdd (ps : List (List Ev)) (i : Nat) (e : Ev) : List (List Ev) := ps.set i ((ps[i]?.getD []) ++ [e])
theorem ev_new (w : World) (e : Ev) (t : TypeId) : ∀ (j : Nat) (u : Value), e.c.toList[j]? = some u → (w.alloc (.cells e.c t)).cell? ((⟨w.heap.size, 0, none⟩ : Addr).add j) = some u := fun j u hj => by
  have hb := CBox.new w e.c t
  have e1 : (⟨w.heap.size, 0, none⟩ : Addr).add j = ⟨w.heap.size, j, none⟩ := by simp [Addr.add]; omega
  rw [e1]
  exact hb.cell (by simpa using hj)
theorem ev_one (e : Ev) : ∀ u ∈ e.c.toList, u.oneCell' = true := by
  unfold Ev.c
  intro u hu
  simp at hu
  rcases hu with rfl | rfl | rfl | rfl | rfl | rfl | rfl <;> rfl
theorem put_of {w w5 w6 w7 : World} {g q i : Nat} {vs : List Value} {ps : List (List Ev)} {e : Ev} {ad : Option Addr} {m cap g7 cap7 : Nat} (h : SrcV w5 g q vs ps) (hk5 : Kp [] w w5) (hk6 : Kp [] w5 w6) (hi : i < ps.length) (hm : ps[i].length = m) (hv : vs[i]? = some (.slice ad m cap)) (he : e.sm) (hl : m < 4096)
    (hown : w7.ownsRow 0 45 7 (.slice (some ⟨g7, 0, none⟩) (m + 1) cap7) (m + 1) (evC ps[i] ++ e.c.toList)) (hg : (w6.alloc (.cells e.c 45)).grownBy w7 (Value.slice ad m cap).ownBlock) (hat : (Value.slice ad m cap).ownBlock = some g7 ∨ g7 = (w6.alloc (.cells e.c 45)).heap.size) :
    SDid w (soF g q vs) g (soAdd ps i e) (w7.setCell ⟨q, i, none⟩ (.slice (some ⟨g7, 0, none⟩) (m + 1) cap7)) := by
  have hkA := hk6.trans (Kp.alloc w6 (.cells e.c 45)) (by simp)
  have hk7 : Kp (Value.slice ad m cap).ownBlock.toList w5 w7 := (hkA.mono (by simp)).trans (Kp.of hg) (fun x hx => Or.inl hx)
  have hs5 := hk5.size
  have hs6 := hk6.size
  have hz : (w6.alloc (.cells e.c 45)).heap.size = w6.heap.size + 1 := by simp
  have hiv : i < vs.length := by rw [h.len]; exact hi
  have hvi : vs[i] = .slice ad m cap := by rw [List.getElem?_eq_getElem hiv] at hv; injection hv
  have hrow := h.inn i _ ps[i] hv (List.getElem?_eq_getElem hi)
  have hin : ∀ k, (Value.slice ad m cap).ownBlock = some k → k ∈ soF g q vs := fun k hk => by
    unfold soF
    exact List.mem_cons_of_mem _ (List.mem_cons_of_mem _ (List.mem_filterMap.2 ⟨_, List.mem_of_getElem? hv, hk⟩))
  have hne : ∀ k, (Value.slice ad m cap).ownBlock = some k → k ≠ g ∧ k ≠ q := fun k hk => by
    obtain ⟨cur, hc⟩ := hrow.block hk
    constructor
    · rintro rfl
      have hb : w5.heap[k]? = _ := h.box
      rw [hc] at hb
      injection hb with e; injection e with _ e; exact absurd e (by decide)
    · rintro rfl
      have hb : w5.heap[k]? = _ := h.row
      rw [hc] at hb
      injection hb with e; injection e with _ e; exact absurd e (by decide)
  have hgq : g ≠ q := by
    rintro rfl
    have hb : w5.heap[g]? = _ := h.box
    have hc : w5.heap[g]? = _ := h.row
    rw [hc] at hb
    injection hb with e; injection e with _ e; exact absurd e (by decide)
  have hgl := h.lt g (by simp [soF])
  have hql := h.lt q (by simp [soF])
  have hg7 : g7 ≠ g ∧ g7 ≠ q := by
    rcases hat with h1 | h1
    · exact hne g7 h1
    · omega
  have hk8 : Kp (q :: (Value.slice ad m cap).ownBlock.toList) w5 (w7.setCell ⟨q, i, none⟩ (.slice (some ⟨g7, 0, none⟩) (m + 1) cap7)) := (hk7.mono (fun x hx => List.mem_cons_of_mem _ hx)).trans (Kp.set w7 q i _) (fun x hx => by simp at hx; subst hx; simp)
  have hpi : ps[i]? = some ps[i] := List.getElem?_eq_getElem hi
  refine ⟨soF g q (vs.set i (.slice (some ⟨g7, 0, none⟩) (m + 1) cap7)), ⟨q, _, ⟨?_, ?_, ?_, ?_, ?_, ?_, ?_, ?_, ?_⟩, rfl⟩, ?_, ?_⟩
  · have : (soAdd ps i e).length = ps.length := by unfold soAdd; simp
    rw [this]
    exact h.box.kp hk8 (by
      intro hx
      rw [List.mem_cons] at hx
      rcases hx with hx | hx
      · exact hgq hx
      · exact (hne g (by simpa using hx)).1 rfl)
  · have hq7 : CBox q vs.toArray 51 w7 := h.row.kp hk7 (fun hx => (hne q (by simpa using hx)).2 rfl)
    have := hq7.set i (.slice (some ⟨g7, 0, none⟩) (m + 1) cap7)
    have e1 : vs.toArray.setIfInBounds i (.slice (some ⟨g7, 0, none⟩) (m + 1) cap7) = (vs.set i (.slice (some ⟨g7, 0, none⟩) (m + 1) cap7)).toArray := by simp
    rw [e1] at this
    exact this
  · unfold soAdd; simp [h.len]
  · unfold soAdd; simp; exact h.pos
  · unfold soAdd; simp; exact h.few
  · intro j v p hvj hpj
    unfold soAdd at hpj
    rw [List.getElem?_set] at hvj hpj
    by_cases hj : i = j
    · subst hj
      simp only [if_pos hiv, if_pos hi] at hvj hpj
      simp at hvj hpj
      subst hvj hpj
      have : EvRow w7 (.slice (some ⟨g7, 0, none⟩) (m + 1) cap7) (ps[i] ++ [e]) := by
        unfold EvRow
        rw [List.length_append, hm, evC_append, evC_one]
        exact hown
      rw [hpi]
      refine this.kp (Kp.set w7 q i _) (fun k hk => ?_)
      have e1 : g7 = k := by simpa [Value.ownBlock] using hk
      subst e1
      simpa using hg7.2
    · rw [if_neg hj] at hvj hpj
      refine (h.inn j v p hvj hpj).kp hk8 (fun k hk hx => ?_)
      rw [List.mem_cons] at hx
      rcases hx with rfl | hx
      · obtain ⟨cur, hc⟩ := (h.inn j v p hvj hpj).block hk
        have hb : w5.heap[k]? = _ := h.row
        rw [hc] at hb
        injection hb with e; injection e with _ e; exact absurd e (by decide)
      · exact hj (h.apa i j _ v k hv hvj (by simpa using hx) hk)
  · intro a b u v k hu hv2 hku hkv
    rw [List.getElem?_set] at hu hv2
    have hold : ∀ (j : Nat) (y : Value), vs[j]? = some y → y.ownBlock = some g7 → j = i := fun j y hy hyb => by
      rcases hat with h1 | h1
      · exact h.apa j i y _ g7 hy hv hyb h1
      · have hjl : j < ps.length := by
          have := (List.getElem?_eq_some_iff.1 hy).1
          rw [h.len] at this; exact this
        have := (h.inn j y _ hy (List.getElem?_eq_getElem hjl)).lt hyb
        omega
    by_cases ha : i = a
    · subst ha
      simp only [if_pos hiv] at hu
      simp at hu
      subst hu
      have e1 : g7 = k := by simpa [Value.ownBlock] using hku
      subst e1
      by_cases hb : i = b
      · exact hb
      · rw [if_neg hb] at hv2
        exact (hold b v hv2 hkv).symm
    · rw [if_neg ha] at hu
      by_cases hb : i = b
      · subst hb
        simp only [if_pos hiv] at hv2
        simp at hv2
        subst hv2
        have e1 : g7 = k := by simpa [Value.ownBlock] using hkv
        subst e1
        exact hold a u hu hku
      · rw [if_neg hb] at hv2
        exact h.apa a b u v k hu hv2 hku hkv
  · intro p hp
    unfold soAdd at hp
    rcases List.mem_or_eq_of_mem_set hp with h1 | h1
    · exact h.lim p h1
    · rw [h1, hpi]; simp; omega
  · intro p hp x hx
    unfold soAdd at hp
    rcases List.mem_or_eq_of_mem_set hp with h1 | h1
    · exact h.sm p h1 x hx
    · rw [h1, hpi, Option.getD_some, List.mem_append, List.mem_singleton] at hx
      rcases hx with hx | rfl
      · exact h.sm _ (List.getElem_mem _) x hx
      · exact he
  · refine (hk5.mono (by simp)).trans (hk8.mono (fun x hx => ?_)) (fun x hx => Or.inl hx)
    rw [List.mem_cons] at hx
    rcases hx with rfl | hx
    · simp [soF]
    · exact hin x (by simpa using hx)
  · intro k hk
    unfold soF at hk
    rw [List.mem_cons, List.mem_cons] at hk
    rcases hk with rfl | rfl | hk
    · exact Or.inl (by simp [soF])
    · exact Or.inl (by simp [soF])
    · obtain ⟨v, hv1, hb⟩ := List.mem_filterMap.1 hk
      rcases List.mem_or_eq_of_mem_set hv1 with h1 | h1
      · exact Or.inl (by unfold soF; exact List.mem_cons_of_mem _ (List.mem_cons_of_mem _ (List.mem_filterMap.2 ⟨v, h1, hb⟩)))
      · subst h1
        have e1 : g7 = k := by simpa [Value.ownBlock] using hb
        subst e1
        rcases hat with h2 | h2
        · exact Or.inl (hin g7 h2)
        · exact Or.inr (by omega)
end Go.Proofs.Ytnikkjbjidhhlaa
