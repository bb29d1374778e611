/-
  A source, its keys and offsets: Below, Part, Read.
-/
import Derived.Test.YtkcbjjpbcgdabaaSKy2
import Derived.Test.YtkcbjjpbcgdabaaSSt1
namespace Go.Proofs.Ytkcbjjpbcgdabaa
open Go.RowKit

/-- A key's events below its offset. -/
def kyX (ps : List (List Ev)) (cs : List Nat) (k : ByteArray) : List Ev := keyL k ((ps[partOf ps.length k]?.getD []).take (cs[partOf ps.length k]?.getD 0))
/-- All events of a key's partition below its offset. -/
def kyA (ps : List (List Ev)) (cs : List Nat) (k : ByteArray) : List Ev := (ps[partOf ps.length k]?.getD []).take (cs[partOf ps.length k]?.getD 0)
section
variable {w0 w : World} {g bm be bc n : Nat} {v : Value} {ks : List ByteArray} {ps : List (List Ev)} {cs : List Nat}
theorem CuS.ints (h : CuS w0 w g bm be bc n v ks ps cs) : IntsAt w (some ⟨bc, 0, none⟩) (cs.map fun (c : Nat) => (c : Int)) := fun _ => by
  refine ⟨bc, 0, rfl, (Array.getElem?_eq_some_iff.1 h.cut).1, fun i hi => ?_⟩
  rw [Nat.zero_add, List.getElem_map]
  exact h.cutC i (by simpa using hi)
theorem CuS.below (h : CuS w0 w g bm be bc n v ks ps cs) (hl : cs.length = n) (key : ByteArray) (hk : key.size ≤ 9223372036854775807) : Calls Try.prog 22 #[.pointer (some ⟨g, 0, none⟩), .string key, .slice (some ⟨bc, 0, none⟩) n n] w fun r w' => ∃ ad cap, r = .returned (.tuple #[.slice ad (kyX ps cs key).length cap, .int .i64 0]) ∧ EvRow w' (.slice ad (kyX ps cs key).length cap) (kyX ps cs key) ∧ CuS w0 w' g bm be bc n v ks ps cs := by
  obtain ⟨q, vs, h1⟩ := h.ky.own.src
  have hp := h.ky.own.few
  have hol : (cs.map fun (c : Nat) => (c : Int)).length = n := by rw [List.length_map]; exact hl
  have hb := below_any g q vs ps key (some ⟨bc, 0, none⟩) n (cs.map fun (c : Nat) => (c : Int)) w h1 hk h.ints (by rw [hol]; have := h.len; omega)
  rw [hol] at hb
  have hE : bwE ps (cs.map fun (c : Nat) => (c : Int)) = 0 := by
    unfold bwE
    rw [if_pos (by rw [hol]; exact h.len.symm), if_pos]
    refine offsB_all (by rw [hol]; exact h.len.symm) (fun j h2 h3 => ?_)
    rw [List.getElem_map]
    have h4 : j < cs.length := by simpa using h3
    have := h.le j ps[j] cs[j] (List.getElem?_eq_getElem h2) (List.getElem?_eq_getElem h4)
    unfold offB
    rw [Bool.and_eq_true, decide_eq_true_eq, decide_eq_true_eq]
    omega
  have hL : bwL key ps (cs.map fun (c : Nat) => (c : Int)) = kyX ps cs key := by
    unfold bwL kyX
    rw [if_pos hE]
    congr 2
    rw [List.getElem?_map]
    cases cs[partOf ps.length key]? <;> rfl
  rw [hE, hL] at hb
  refine hb.mono ?_
  rintro r w' ⟨x, rfl, hn, hkp⟩
  obtain ⟨ad, cap, rfl, _⟩ := hn.1.form
  exact ⟨ad, cap, rfl, hn.1, h.next hkp⟩
theorem CuS.part (h : CuS w0 w g bm be bc n v ks ps cs) (s : ByteArray) (hs : s.size ≤ 9223372036854775807) : Calls Try.prog 25 #[.pointer (some ⟨g, 0, none⟩), .string s] w fun r w' => r = .returned (.int .i64 ((partOf ps.length s : Nat) : Int)) ∧ CuS w0 w' g bm be bc n v ks ps cs ∧ Kp [] w w' :=
  (h.ky.part s hs).mono fun _ _ hh => ⟨hh.1, h.next hh.2.2, hh.2.2⟩
theorem CuS.read (h : CuS w0 w g bm be bc n v ks ps cs) (hl : cs.length = n) (key : ByteArray) (hp : partOf ps.length key < cs.length) : Calls Try.prog 18 #[.pointer (some ⟨g, 0, none⟩), .int .i64 ((partOf ps.length key : Nat) : Int), .int .i64 0, .int .i64 ((cs[partOf ps.length key] : Nat) : Int)] w fun r w' => ∃ ad cap, r = .returned (.tuple #[.slice ad (kyA ps cs key).length cap, .int .i64 0]) ∧ EvRow w' (.slice ad (kyA ps cs key).length cap) (kyA ps cs key) ∧ CuS w0 w' g bm be bc n v ks ps cs ∧ Kp [] w w' := by
  obtain ⟨q, vs, h1⟩ := h.ky.own.src
  have hf := h.ky.own.few
  have hln := h.len
  have hpp : partOf ps.length key < ps.length := by omega
  obtain ⟨hE, hL⟩ := rd_some ps (partOf ps.length key) hpp 0 cs[partOf ps.length key] (Nat.zero_le _)
  have hr := read_any g q vs ps ((partOf ps.length key : Nat) : Int) ((0 : Nat) : Int) ((cs[partOf ps.length key] : Nat) : Int) w h1 (by unfold inW; omega) (by unfold inW; omega)
  have hA : kyA ps cs key = (ps[partOf ps.length key].drop 0).take cs[partOf ps.length key] := by
    unfold kyA
    rw [List.getElem?_eq_getElem hpp, List.getElem?_eq_getElem hp, List.drop_zero]; rfl
  rw [hE, hL, ← hA] at hr
  refine hr.mono ?_
  rintro r w' ⟨x, rfl, hn, hkp⟩
  obtain ⟨ad, cap, rfl, _⟩ := hn.1.form
  exact ⟨ad, cap, rfl, hn.1, h.next hkp, hkp⟩
theorem kyX_len (h : CuS w0 w g bm be bc n v ks ps cs) (k : ByteArray) : (kyX ps cs k).length ≤ 4096 ∧ (kyA ps cs k).length ≤ 4096 := by
  have hA : (kyA ps cs k).length ≤ 4096 := by
    unfold kyA
    rw [List.length_take]
    cases hp : ps[partOf ps.length k]? with
    | none => rw [Option.getD_none]; simp
    | some p =>
      have := h.ky.own.lim p (List.mem_of_getElem? hp)
      rw [Option.getD_some]; omega
  exact ⟨Nat.le_trans (List.length_filter_le _ _) hA, hA⟩
end
/-- The next event of a key is the next that was told. -/
theorem keyL_at (key : ByteArray) (A : List Ev) (t : Nat) (ht : t < A.length) (hk : A[t].k = key) : (keyL key A)[(keyL key (A.take t)).length]? = some A[t] := by
  have h : keyL key A = keyL key (A.take t) ++ (A[t] :: keyL key (A.drop (t + 1))) := by
    unfold keyL
    have e : A = A.take t ++ A[t] :: A.drop (t + 1) := by rw [← List.drop_eq_getElem_cons ht, List.take_append_drop]
    have : (A.filter fun e => decide (e.k = key)) = ((A.take t ++ A[t] :: A.drop (t + 1)).filter fun e => decide (e.k = key)) := by rw [← e]
    rw [this, List.filter_append, List.filter_cons, if_pos (by simpa using hk)]
  rw [h, List.getElem?_append_right (Nat.le_refl _), Nat.sub_self]
  rfl
end Go.Proofs.Ytkcbjjpbcgdabaa
