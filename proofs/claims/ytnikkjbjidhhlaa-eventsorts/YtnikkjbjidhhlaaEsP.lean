/-
  EventSorts: plain facts: matches put in order, one by one.
-/
import Derived.Test.YtnikkjbjidhhlaaEvO
namespace Go.Proofs.Ytnikkjbjidhhlaa
open Go.RowKit

/-- A match, and where its stages lie. -/
structure Hd where
  k : ByteArray
  s : List (List Int)
  a : Option Addr
  c : Nat
def Hd.key (h : Hd) : ByteArray × List (List Int) := (h.k, h.s)
def cH (x y : Hd) : Int := cM x.k x.s y.k y.s
theorem cH_anti (x y : Hd) : cH y x = - cH x y := cM_pre.anti x.key y.key
theorem cH_trans (x y z : Hd) (h1 : cH x y ≤ 0) (h2 : cH y z ≤ 0) : cH x z ≤ 0 := (cM_pre.trans x.key y.key z.key h1 h2).1
/-- How many stand ahead of a match. -/
def atH (m : Hd) : List Hd → Nat
  | [] => 0
  | x :: r => if 0 < cH x m then 0 else atH m r + 1
def insH (m : Hd) (l : List Hd) : List Hd := l.take (atH m l) ++ m :: l.drop (atH m l)
theorem atH_le (m : Hd) : ∀ l : List Hd, atH m l ≤ l.length
  | [] => Nat.le_refl _
  | x :: r => by
    unfold atH
    split
    · exact Nat.zero_le _
    · have := atH_le m r; simp; omega
theorem atH_ahead (m : Hd) : ∀ (l : List Hd) (i : Nat) (_ : i < atH m l) (h : i < l.length), ¬ 0 < cH l[i] m
  | [], i, _, h => absurd h (by simp)
  | x :: r, i, hi, h => by
    unfold atH at hi
    split at hi
    · omega
    · rename_i hn
      cases i with
      | zero => exact hn
      | succ j => exact atH_ahead m r j (by omega) (by simpa using h)
theorem atH_at (m : Hd) : ∀ (l : List Hd) (h : atH m l < l.length), 0 < cH l[atH m l] m
  | [], h => absurd h (by simp)
  | x :: r, h => by
    by_cases hx : 0 < cH x m
    · have e : atH m (x :: r) = 0 := by unfold atH; rw [if_pos hx]
      have : (x :: r)[atH m (x :: r)] = x := by simp [e]
      rw [this]
      exact hx
    · have e : atH m (x :: r) = atH m r + 1 := by rw [atH, if_neg hx]
      have h2 : atH m r < r.length := by rw [e] at h; simpa using h
      have : (x :: r)[atH m (x :: r)] = r[atH m r] := by simp [e]
      rw [this]
      exact atH_at m r h2
theorem insH_len (m : Hd) (l : List Hd) : (insH m l).length = l.length + 1 := by
  have := atH_le m l
  unfold insH
  simp
  omega
theorem insH_cons (m x : Hd) (r : List Hd) : insH m (x :: r) = if 0 < cH x m then m :: x :: r else x :: insH m r := by
  unfold insH
  by_cases hx : 0 < cH x m
  · have e : atH m (x :: r) = 0 := by unfold atH; rw [if_pos hx]
    rw [e, if_pos hx]; rfl
  · have e : atH m (x :: r) = atH m r + 1 := by rw [atH, if_neg hx]
    rw [e, if_neg hx]; rfl
theorem insH_perm (m : Hd) : ∀ l : List Hd, (insH m l).Perm (m :: l)
  | [] => List.Perm.refl _
  | x :: r => by
    rw [insH_cons]
    split
    · exact List.Perm.refl _
    · exact ((insH_perm m r).cons x).trans (List.Perm.swap m x r)
/-- Each is not behind the next. -/
def SrtH (l : List Hd) : Prop := l.Pairwise fun x y => cH x y ≤ 0
theorem insH_srt (m : Hd) : ∀ l : List Hd, SrtH l → SrtH (insH m l)
  | [], _ => List.pairwise_singleton _ _
  | x :: r, h => by
    obtain ⟨h1, h2⟩ := List.pairwise_cons.1 h
    rw [insH_cons]
    split
    · rename_i hx
      have hm : cH m x ≤ 0 := by rw [cH_anti x m]; omega
      refine List.pairwise_cons.2 ⟨fun y hy => ?_, h⟩
      rcases List.mem_cons.1 hy with rfl | hy
      · exact hm
      · exact cH_trans m x y hm (h1 y hy)
    · rename_i hx
      refine List.pairwise_cons.2 ⟨fun y hy => ?_, insH_srt m r h2⟩
      rcases List.mem_cons.1 ((insH_perm m r).mem_iff.1 hy) with rfl | hy
      · omega
      · exact h1 y hy
/-- All put in order. -/
def allH (l : List Hd) : List Hd := l.foldl (fun a m => insH m a) []
theorem allH_snoc (l : List Hd) (m : Hd) : allH (l ++ [m]) = insH m (allH l) := by unfold allH; rw [List.foldl_append]; rfl
theorem allH_take (l : List Hd) (i : Nat) (h : i < l.length) : allH (l.take (i + 1)) = insH l[i] (allH (l.take i)) := by
  rw [List.take_succ_eq_append_getElem h, allH_snoc]
theorem allH_both (l : List Hd) : SrtH (allH l) ∧ (allH l).Perm l := by
  have key : ∀ r : List Hd, SrtH (allH r.reverse) ∧ (allH r.reverse).Perm r := by
    intro r
    induction r with
    | nil => exact ⟨List.Pairwise.nil, List.Perm.refl _⟩
    | cons x r ih =>
      rw [List.reverse_cons, allH_snoc]
      exact ⟨insH_srt _ _ ih.1, (insH_perm _ _).trans (ih.2.cons x)⟩
  have := key l.reverse
  rw [List.reverse_reverse] at this
  exact ⟨this.1, this.2.trans (List.reverse_perm l)⟩
theorem allH_len (l : List Hd) : (allH l).length = l.length := (allH_both l).2.length_eq
/-- Whichever way they come, they stand the same. -/
theorem allH_same (l : List Hd) : (allH l).map Hd.key = (allH l.reverse).map Hd.key := by
  obtain ⟨s1, p1⟩ := allH_both l
  obtain ⟨s2, p2⟩ := allH_both l.reverse
  have hp : ((allH l).map Hd.key).Perm ((allH l.reverse).map Hd.key) := ((p1.trans (List.reverse_perm l).symm).trans p2.symm).map _
  refine List.Perm.eq_of_pairwise (le := fun x y : ByteArray × List (List Int) => cM x.1 x.2 y.1 y.2 ≤ 0) (fun a b _ _ h1 h2 => ?_) (List.pairwise_map.2 s1) (List.pairwise_map.2 s2) hp
  have := cM_pre.anti a b
  have h0 : cM a.1 a.2 b.1 b.2 = 0 := by
    have h2' : - cM a.1 a.2 b.1 b.2 ≤ 0 := by rw [← this]; exact h2
    omega
  obtain ⟨e1, e2⟩ := (cM_zero _ _ _ _).1 h0
  exact Prod.ext e1 e2
theorem allH_zero (l : List Hd) (i : Nat) (h1 : i < (allH l).length) (h2 : i < (allH l.reverse).length) : cH (allH l)[i] (allH l.reverse)[i] = 0 := by
  have e := congrArg (fun x => x[i]?) (allH_same l)
  simp only [List.getElem?_map, List.getElem?_eq_getElem h1, List.getElem?_eq_getElem h2, Option.map_some, Option.some.injEq] at e
  unfold Hd.key at e
  injection e with e1 e2
  unfold cH
  exact (cM_zero _ _ _ _).2 ⟨e1, e2⟩
theorem srtH_next (l : List Hd) (h : SrtH l) (i : Nat) (h1 : i + 1 < l.length) : cH l[i] l[i + 1] ≤ 0 := List.pairwise_iff_getElem.1 h i (i + 1) (by omega) h1 (by omega)
end Go.Proofs.Ytnikkjbjidhhlaa
