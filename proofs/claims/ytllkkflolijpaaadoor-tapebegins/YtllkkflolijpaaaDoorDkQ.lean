/-
  Plain facts on files by their names, of no program.
-/
import Derived.Test.YtllkkflolijpaaaDoorDkL
namespace Go.Proofs.YtllkkflolijpaaaDoor

theorem getF_perm {a b : Fs} (hp : a.Perm b) (hn : (a.map (·.1)).Nodup) (n : ByteArray) : getF a n = getF b n := by
  have hnb : (b.map (·.1)).Nodup := (hp.map _).nodup_iff.1 hn
  cases h : getF b n with
  | none =>
    refine getF_none fun hm => ?_
    obtain ⟨q, hq, he⟩ := List.mem_map.1 hm
    have := getF_mem hnb (n := n) (d := q.2) (by rw [← he]; exact hp.mem_iff.1 hq)
    rw [h] at this; cases this
  | some d => exact getF_mem hn (hp.mem_iff.2 (getF_some h))
theorem getF_without_ne {fs : Fs} (hn : (fs.map (·.1)).Nodup) {m n : ByteArray} (hne : n ≠ m) : getF (without fs m) n = getF fs n := by
  cases h : getF fs n with
  | none =>
    refine getF_none fun hm => ?_
    obtain ⟨q, hq, he⟩ := List.mem_map.1 hm
    have := getF_mem hn (n := n) (d := q.2) (by rw [← he]; exact (List.mem_filter.1 hq).1)
    rw [h] at this; cases this
  | some d => exact getF_mem (nodup_without hn m) (List.mem_filter.2 ⟨getF_some h, by simpa using hne⟩)
theorem nodup_with {fs : Fs} (hn : (fs.map (·.1)).Nodup) (n : ByteArray) (d : List UInt8) : ((withF fs n d).map (·.1)).Nodup := nodup_made hn (.wr n 0 ⟨#[]⟩) |> fun _ => by
  refine ((withF_perm fs n d).map (·.1)).nodup_iff.2 ?_
  rw [List.map_cons, List.nodup_cons]
  refine ⟨fun hm => ?_, nodup_without hn n⟩
  obtain ⟨q, hq, he⟩ := List.mem_map.1 hm
  have := (List.mem_filter.1 hq).2
  simp [he] at this
theorem getF_with {fs : Fs} (hn : (fs.map (·.1)).Nodup) (m n : ByteArray) (d : List UInt8) : getF (withF fs m d) n = if n = m then some d else getF fs n := by
  have hw := nodup_with hn m d
  rw [getF_perm (withF_perm fs m d) hw]
  by_cases h : n = m
  · subst h
    rw [if_pos rfl]
    unfold getF
    rw [List.find?_cons_of_pos (by simp)]; rfl
  · rw [if_neg h, ← getF_without_ne hn h]
    unfold getF
    rw [List.find?_cons_of_neg (by simpa using Ne.symm h)]
end Go.Proofs.YtllkkflolijpaaaDoor
