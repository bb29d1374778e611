/-
  A statement whose order is drawn, and whose last operation waits for all others, be it through others: what is read ahead of it may be taken first. Of no program.
-/
import Derived.Test.YtiomngpfolkgpaaL12
namespace Go.Proofs.Ytiomngpfolkgpaa
open Go.RowKit

section
variable {P : Program} {ops : Array Oper} {Q : Exit → Act → World → Prop} {md : Region.Mode} {S : World → Prop} {late : Nat}
/-- What an operation waits for. -/
def deps (md : Region.Mode) (ops : Array Oper) (j : Nat) : List Nat := match ops[j]? with
  | some o => (o.after.toList.filter (Region.binds md)).map (·.on)
  | none => []
/-- Does it wait for number i, be it through others? -/
def reach (md : Region.Mode) (ops : Array Oper) (i : Nat) : Nat → Nat → Bool
  | 0, _ => false
  | f + 1, j => (deps md ops j).any fun d => d == i || reach md ops i f d
/-- What is listed waits for what is listed. -/
def closed (md : Region.Mode) (ops : Array Oper) (listed : Array Bool) : Bool := (List.range ops.size).all fun j => !(listed.getD j false) || (deps md ops j).all fun d => listed.getD d false
theorem closed_at {listed : Array Bool} (h : closed md ops listed = true) {j : Nat} (hj : listed.getD j false = true) : ∀ d ∈ deps md ops j, listed.getD d false = true := fun d hd => by
  have hlt : j < ops.size := by
    rcases Nat.lt_or_ge j ops.size with h1 | h1
    · exact h1
    · unfold deps at hd
      rw [Array.getElem?_eq_none h1] at hd
      cases hd
  unfold closed at h
  have h1 := List.all_eq_true.1 h j (List.mem_range.2 hlt)
  rw [hj] at h1
  simp only [Bool.not_true, Bool.false_or] at h1
  exact List.all_eq_true.1 h1 d hd
theorem reach_listed {listed : Array Bool} {i : Nat} (h : closed md ops listed = true) : ∀ (f j : Nat), (∀ d ∈ deps md ops j, listed.getD d false = true) → reach md ops i f j = true → listed.getD i false = true
  | 0, _, _, hr => by cases hr
  | f + 1, j, hd, hr => by
    unfold reach at hr
    obtain ⟨d, hdm, he⟩ := List.any_eq_true.1 hr
    rw [Bool.or_eq_true] at he
    rcases he with he | he
    · rw [← beq_iff_eq.1 he]; exact hd d hdm
    · exact reach_listed h f d (closed_at h (hd d hdm)) he
theorem ready_deps {listed : Array Bool} {j : Nat} (hj : j ∈ Region.ready md ops listed) : ∀ d ∈ deps md ops j, listed.getD d false = true := fun d hd => by
  obtain ⟨_, o, ho, hall⟩ := mem_ready.1 hj
  unfold deps at hd
  rw [ho] at hd
  obtain ⟨e, he, rfl⟩ := List.mem_map.1 hd
  obtain ⟨h1, h2⟩ := List.mem_filter.1 he
  exact hall e (Array.mem_toList_iff.1 h1) h2
theorem closed_set {listed : Array Bool} {j : Nat} (h : closed md ops listed = true) (hj : j ∈ Region.ready md ops listed) : closed md ops (listed.setIfInBounds j true) = true := by
  unfold closed
  refine List.all_eq_true.2 fun k _ => ?_
  rw [Bool.or_eq_true]
  by_cases hk : (listed.setIfInBounds j true).getD k false = true
  · refine Or.inr (List.all_eq_true.2 fun d hd => getD_set_true ?_)
    by_cases e : j = k
    · subst e; exact ready_deps hj d hd
    · rw [getD_set_ne false e] at hk
      exact closed_at h hk d hd
  · left
    simp only [Bool.not_eq_true] at hk
    rw [hk]
    rfl
theorem wpAnyL_first3 {i f : Nat} {oi : Oper} {v : Value} (hi : ops[i]? = some oi) (hw : reach md ops i f late = true) (hsel : ∀ (j : Nat) (o : Oper) cs b, ops[j]? = some o → o.op ≠ .select cs b)
    (hQ : ∀ c a w, Q (.panic c) (a.put oi.dst v) w → Q (.panic c) a w) :
    ∀ (fuel : Nat) (listed : Array Bool) (a : Act) (w : World), closed md ops listed = true →
      (∀ j oj, ops[j]? = some oj → j ≠ i → listed.getD j true = false → (∀ e ∈ oj.after, Region.binds md e = true → e.on ≠ i) → oi.apart ops oj = true) →
      i ∈ Region.ready md ops listed → YieldsIf P ops S oi v a → S w →
      wpAnyL P md ops Q S late fuel (listed.setIfInBounds i true) (a.put oi.dst v) w → wpAnyL P md ops Q S late (fuel + 1) listed a w := by
  intro fuel
  induction fuel with
  | zero =>
    intro listed a w _ _ hr hy hS H
    refine ⟨fun h => (by rw [h] at hr; cases hr), fun j hj => ?_⟩
    by_cases hji : j = i
    · subst hji; exact hy.wpOp hi hS ⟨Or.inr hS, H⟩
    · have := ready_mono hj hji
      rw [H.1] at this
      cases this
  | succ fuel ih =>
    intro listed a w hcl hfree hr hy hS H
    refine ⟨fun h => (by rw [h] at hr; cases hr), fun j hj => ?_⟩
    by_cases hji : j = i
    · subst hji; exact hy.wpOp hi hS ⟨Or.inr hS, H⟩
    · have h1 := H.2 j (ready_mono hj hji)
      obtain ⟨hjun, oj, hoj, hall⟩ := mem_ready.1 hj
      have hiun : listed.getD i false ≠ true := fun h1 => by
        have h0 := (mem_ready.1 hr).1
        rcases Nat.lt_or_ge i listed.size with h' | h'
        · simp [h'] at h0 h1; rw [h0] at h1; cases h1
        · simp [Array.getElem?_eq_none h'] at h1
      have hnot : ∀ e ∈ oj.after, Region.binds md e = true → e.on ≠ i := fun e he hb heq => hiun (by rw [← heq]; exact hall e he hb)
      have hjl : j ≠ late := by
        rintro rfl
        exact hiun (reach_listed hcl f _ (ready_deps hj) hw)
      have h1' : wpOp P ops Q j (fun a' w' => S w' ∧ wpAnyL P md ops Q S late fuel ((listed.setIfInBounds i true).setIfInBounds j true) a' w') (a.put oi.dst v) w := wpOp_mono (fun a' w' h => ⟨h.1.resolve_left hjl, h.2⟩) h1
      have h2 := wpOp_putIf hoj (hfree j oj hoj hji hjun hnot) (fun cs b => hsel i oi cs b hi) (fun cs b => hsel j oj cs b hoj) hQ hy h1'
      have hfree' : ∀ k ok, ops[k]? = some ok → k ≠ i → (listed.setIfInBounds j true).getD k true = false →
          (∀ e ∈ ok.after, Region.binds md e = true → e.on ≠ i) → oi.apart ops ok = true := fun k ok hk hki hun hno => by
        refine hfree k ok hk hki ?_ hno
        by_cases hjk : j = k
        · subst hjk; exact hjun
        · rw [getD_set_ne true hjk] at hun; exact hun
      refine wpOp_mono (fun a' w' h3 => ⟨Or.inr h3.2.1, ih (listed.setIfInBounds j true) a' w' (closed_set hcl hj) hfree' (ready_mono hr (Ne.symm hji)) h3.1 h3.2.1 ?_⟩) h2
      rw [Array.setIfInBounds_comm _ _ hji]
      exact h3.2.2
/-- Take number i first. -/
theorem wpAnyL_take3 {i : Nat} {oi : Oper} {v : Value} {fuel : Nat} {listed : Array Bool} {a : Act} {w : World} (hi : ops[i]? = some oi)
    (hw : (reach md ops i ops.size late && closed md ops listed) = true) (hs : Region.noSelect ops = true) (hf : Region.free md ops listed i = true) (hr : (Region.ready md ops listed).contains i = true)
    (hQ : ∀ c a w, Q (.panic c) (a.put oi.dst v) w → Q (.panic c) a w) (hy : YieldsIf P ops S oi v a) (hS : S w)
    (h : wpAnyL P md ops Q S late fuel (listed.setIfInBounds i true) (a.put oi.dst v) w) : wpAnyL P md ops Q S late (fuel + 1) listed a w := by
  rw [Bool.and_eq_true] at hw
  exact wpAnyL_first3 hi hw.1 (Region.noSelect_spec hs) hQ fuel listed a w hw.2 (Region.free_spec hi hf) (by simpa using hr) hy hS h
end
end Go.Proofs.Ytiomngpfolkgpaa
