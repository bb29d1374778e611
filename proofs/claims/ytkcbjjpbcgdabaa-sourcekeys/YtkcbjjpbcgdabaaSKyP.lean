/-
  Keys and partitions, plainly: all keys' events are all events.
-/
import Derived.Test.YtkcbjjpbcgdabaaSoL
namespace Go.Proofs.Ytkcbjjpbcgdabaa
open Go.RowKit

/-- A key more, if it is not there. -/
def kHas (ks : List ByteArray) (s : ByteArray) : Bool := ks.any fun t => decide (t = s)
theorem kHas_iff (ks : List ByteArray) (s : ByteArray) : kHas ks s = true ↔ s ∈ ks := by
  unfold kHas
  rw [List.any_eq_true]
  exact ⟨fun ⟨t, ht, he⟩ => by rw [decide_eq_true_eq] at he; rw [← he]; exact ht, fun h => ⟨s, h, by simp⟩⟩
def kAdd (ks : List ByteArray) (s : ByteArray) : List ByteArray := if kHas ks s = true then ks else ks ++ [s]
theorem kAdd_mem (ks : List ByteArray) (s t : ByteArray) : t ∈ kAdd ks s ↔ t = s ∨ t ∈ ks := by
  unfold kAdd
  split
  · rename_i h
    exact ⟨Or.inr, fun h1 => h1.elim (fun e => by rw [e]; exact (kHas_iff _ _).1 h) id⟩
  · rw [List.mem_append, List.mem_singleton]; exact Or.comm
theorem kAdd_nodup {ks : List ByteArray} (h : ks.Nodup) (s : ByteArray) : (kAdd ks s).Nodup := by
  unfold kAdd
  split
  · exact h
  · rename_i hn
    rw [List.nodup_append]
    exact ⟨h, by simp, fun a ha b hb => by rw [List.mem_singleton] at hb; subst hb; intro e; subst e; exact hn ((kHas_iff _ _).2 ha)⟩
/-- Each event's key is known, and lies in its own partition. -/
def KInv (ks : List ByteArray) (ps : List (List Ev)) : Prop := ∀ (i : Nat) (p : List Ev) (e : Ev), ps[i]? = some p → e ∈ p → e.k ∈ ks ∧ partOf ps.length e.k = i
theorem KInv.new (n : Nat) : KInv [] (soNew n) := fun i p e hp he => by
  have := List.mem_of_getElem? hp
  unfold soNew at this
  rw [List.mem_replicate] at this
  rw [this.2] at he
  simp at he
theorem KInv.put {ks : List ByteArray} {ps : List (List Ev)} (h : KInv ks ps) (e : Ev) (hE : puE ps e = 0) (hi : puP ps e < ps.length) : KInv (kAdd ks e.k) (puS ps e) := fun i p x hp hx => by
  have hS : puS ps e = soAdd ps (puP ps e) e := if_pos hE
  rw [puS_len]
  rw [hS] at hp
  unfold soAdd at hp
  rw [List.getElem?_set] at hp
  split at hp
  · rename_i hpi
    subst hpi
    obtain rfl := Option.some.inj hp
    rw [List.getElem?_eq_getElem hi, Option.getD_some, List.mem_append, List.mem_singleton] at hx
    rcases hx with hx | rfl
    · obtain ⟨h1, h2⟩ := h _ _ x (List.getElem?_eq_getElem hi) hx
      exact ⟨(kAdd_mem _ _ _).2 (Or.inr h1), h2⟩
    · exact ⟨(kAdd_mem _ _ _).2 (Or.inl rfl), rfl⟩
  · obtain ⟨h1, h2⟩ := h i p x hp hx
    exact ⟨(kAdd_mem _ _ _).2 (Or.inr h1), h2⟩
/-- How many of a row have one of some keys. -/
theorem keys_sum : ∀ (ks : List ByteArray), ks.Nodup → ∀ (l : List Ev), (∀ e ∈ l, e.k ∈ ks) → (ks.map fun k => (keyL k l).length).sum = l.length := fun ks hn l => by
  induction l with
  | nil =>
    intro _
    have : ∀ ks : List ByteArray, (ks.map fun k => (keyL k []).length).sum = 0 := fun ks => by
      induction ks with
      | nil => rfl
      | cons a r ih => rw [List.map_cons, List.sum_cons, ih]; rfl
    exact this ks
  | cons e r ih =>
    intro h
    have h1 := ih (fun x hx => h x (List.mem_cons_of_mem _ hx))
    have he := h e List.mem_cons_self
    have hc : ∀ k, (keyL k (e :: r)).length = (if e.k = k then 1 else 0) + (keyL k r).length := fun k => by
      unfold keyL
      rw [List.filter_cons]
      by_cases hk : e.k = k
      · rw [if_pos (by simpa using hk), if_pos hk, List.length_cons]; omega
      · rw [if_neg (by simpa using hk), if_neg hk]; omega
    have hone : ∀ ks : List ByteArray, ks.Nodup → e.k ∈ ks → (ks.map fun k => (if e.k = k then 1 else 0) + (keyL k r).length).sum = 1 + (ks.map fun k => (keyL k r).length).sum := fun ks => by
      induction ks with
      | nil => intro _ hm; simp at hm
      | cons a t ih2 =>
        intro hnd hm
        rw [List.nodup_cons] at hnd
        rw [List.map_cons, List.sum_cons, List.map_cons, List.sum_cons]
        by_cases ha : e.k = a
        · rw [if_pos ha]
          have hz : ∀ t : List ByteArray, e.k ∉ t → (t.map fun k => (if e.k = k then 1 else 0) + (keyL k r).length).sum = (t.map fun k => (keyL k r).length).sum := fun t => by
            induction t with
            | nil => intro _; rfl
            | cons b u ih3 =>
              intro hb
              rw [List.mem_cons, not_or] at hb
              rw [List.map_cons, List.sum_cons, List.map_cons, List.sum_cons, if_neg hb.1, ih3 hb.2]; omega
          rw [hz t (by rw [ha]; exact hnd.1)]; omega
        · rw [if_neg ha]
          rw [List.mem_cons] at hm
          have := ih2 hnd.2 (hm.resolve_left ha)
          omega
    rw [List.map_congr_left (fun k _ => hc k), hone ks hn he, h1, List.length_cons]; omega
theorem map_sum_add {α : Type} (l : List α) (f g : α → Nat) : (l.map fun x => f x + g x).sum = (l.map f).sum + (l.map g).sum := by
  induction l with
  | nil => rfl
  | cons a r ih => rw [List.map_cons, List.sum_cons, ih, List.map_cons, List.sum_cons, List.map_cons, List.sum_cons]; omega
theorem map_sum_zero {α : Type} (l : List α) : (l.map fun _ => 0).sum = 0 := by
  induction l with
  | nil => rfl
  | cons a r ih => rw [List.map_cons, List.sum_cons, ih]
/-- Sums turned about. -/
theorem sum_swap {α β : Type} (l : List α) (m : List β) (f : α → β → Nat) : (l.map fun a => (m.map fun b => f a b).sum).sum = (m.map fun b => (l.map fun a => f a b).sum).sum := by
  induction l with
  | nil => simp only [List.map_nil, List.sum_nil]; exact (map_sum_zero m).symm
  | cons a r ih => simp only [List.map_cons, List.sum_cons]; rw [ih, map_sum_add]
theorem sum_one {n : Nat} (i : Nat) (hi : i < n) (f : Nat → Nat) (hf : ∀ j, j ≠ i → f j = 0) : ((List.range n).map f).sum = f i := by
  induction n with
  | zero => omega
  | succ n ih =>
    rw [List.range_succ, List.map_append, List.sum_append, List.map_cons, List.map_nil, List.sum_cons, List.sum_nil]
    by_cases h : i = n
    · subst h
      have hz : ((List.range i).map f).sum = 0 := by
        rw [List.map_congr_left (g := fun _ => 0) (fun j hj => hf j (by have := List.mem_range.1 hj; omega)), map_sum_zero]
      omega
    · rw [ih (by omega), hf n (fun e => h e.symm)]; omega
/-- All keys' events below offsets are as many as all events below them. -/
theorem keys_all (ks : List ByteArray) (ps : List (List Ev)) (cs : List Nat) (hn : ks.Nodup) (hI : KInv ks ps) (hl : cs.length = ps.length) (hc : ∀ (i : Nat) (p : List Ev) (c : Nat), ps[i]? = some p → cs[i]? = some c → c ≤ p.length) (h0 : 0 < ps.length) :
    (ks.map fun k => (keyL k ((ps[partOf ps.length k]?.getD []).take (cs[partOf ps.length k]?.getD 0))).length).sum = cs.sum := by
  let T : Nat → List Ev := fun i => (ps[i]?.getD []).take (cs[i]?.getD 0)
  have h1 : ∀ k, ((List.range ps.length).map fun i => (keyL k (T i)).length).sum = (keyL k (T (partOf ps.length k))).length := fun k => by
    refine sum_one _ (partOf_lt _ h0 k) _ (fun j hj => ?_)
    rw [List.length_eq_zero_iff]
    unfold keyL
    rw [List.filter_eq_nil_iff]
    intro e he hk
    have hk' : e.k = k := by simpa using hk
    have he' := List.mem_of_mem_take he
    cases hp : ps[j]? with
    | none => rw [hp] at he'; simp at he'
    | some p =>
      rw [hp] at he'
      have := (hI j p e hp he').2
      rw [hk'] at this
      exact hj this.symm
  have h2 : ∀ i, i < ps.length → (ks.map fun k => (keyL k (T i)).length).sum = cs[i]?.getD 0 := fun i hi => by
    have hp : ps[i]? = some ps[i] := List.getElem?_eq_getElem hi
    have hcs : cs[i]? = some (cs[i]'(by omega)) := List.getElem?_eq_getElem (by omega)
    rw [keys_sum ks hn (T i) (fun e he => (hI i ps[i] e hp (by
      have := List.mem_of_mem_take he
      rw [hp] at this
      exact this)).1)]
    show ((ps[i]?.getD []).take (cs[i]?.getD 0)).length = _
    have := hc i _ _ hp hcs
    rw [hp, hcs, Option.getD_some, Option.getD_some, List.length_take]
    omega
  show (ks.map fun k => (keyL k (T (partOf ps.length k))).length).sum = cs.sum
  rw [List.map_congr_left (fun k _ => (h1 k).symm), sum_swap, List.map_congr_left (fun i hi => h2 i (List.mem_range.1 hi)), ← hl]
  congr 1
  apply List.ext_getElem?
  intro i
  by_cases hi : i < cs.length
  · simp [hi]
  · simp [hi]
end Go.Proofs.Ytkcbjjpbcgdabaa
