/-
  A tape's file, plain: frames that are put at its end; what is opened; a byte that rots.
-/
import Derived.Test.YtllkkflolijpaaaDoorDkQ
import Derived.Test.YtllkkflolijpaaaDoorTpI
namespace Go.Proofs.YtllkkflolijpaaaDoor
open Go.RowKit

theorem allF_append (a b : List (List UInt8)) : allF (a ++ b) = allF a ++ allF b := by unfold allF; rw [List.flatMap_append]
theorem allF_one (x : List UInt8) : allF [x] = frameL x := by unfold allF; simp
theorem frS_data (s : ByteArray) (h : s.size ≤ 65536) : (frS s).data.toList = frameL s.data.toList := by
  unfold frS
  rw [if_neg (by omega)]
theorem frS_len (s : ByteArray) (h : s.size ≤ 65536) : (frS s).size = s.size + 10 := by
  have e : (frS s).size = (frS s).data.toList.length := Array.length_toList.symm
  rw [e, frS_data s h, frameL_len, Array.length_toList]
  rfl
theorem over_end (h d : List UInt8) : over h h.length d = h ++ d := by
  unfold over
  rw [List.take_length, List.drop_of_length_le (by omega), List.append_nil]
/-- A disk to which texts are appended, all going well. -/
structure Gd (d : Dk) (j : Nat) : Prop where
  left : d.left = -1
  down : d.down = false
  few : d.wait.length ≤ j
  tot : total d.now ≤ 510 * j
  len : d.now.length ≤ j
theorem Gd.new : Gd Dk.new 0 := ⟨rfl, rfl, by decide, by decide, by decide⟩
theorem Gd.more {d : Dk} {j : Nat} (h : Gd d j) : Gd d (j + 1) := ⟨h.left, h.down, by have := h.few; omega, by have := h.tot; omega, by have := h.len; omega⟩
theorem Gd.ready {d : Dk} {j : Nat} (h : Gd d j) : d.readyB = true ∧ d.ready = d := by
  have e1 : d.readyB = true := by unfold Dk.readyB; rw [h.down, h.left]; rfl
  refine ⟨e1, ?_⟩
  unfold Dk.ready
  rw [if_pos e1]
  obtain ⟨a, b, c, e, f⟩ := d
  have := h.left
  dsimp only at this ⊢
  subst this
  rfl
theorem hasF_with {fs : Fs} (hn : (fs.map (·.1)).Nodup) (m n : ByteArray) (d : List UInt8) : hasF (withF fs m d) n = if n = m then d else hasF fs n := by
  unfold hasF
  rw [getF_with hn]
  split <;> rfl
theorem Gd.append {d : Dk} {j : Nat} (h : Gd d j) (hj : j < 60) (hn : (d.now.map (·.1)).Nodup) {n : ByteArray} (hd : dnm n = true) (s : ByteArray) (hs : s.size ≤ 500) :
    d.apE n s = 0 ∧ Gd (d.apD n s) (j + 1) ∧ (d.apD n s).now = withF d.now n (hasF d.now n ++ frameL s.data.toList) ∧ (d.apD n s).safe = d.safe := by
  obtain ⟨r1, r2⟩ := h.ready
  have hl := hasF_le (fs := d.now) n
  have ht := h.tot
  have hf := frS_len s (by omega)
  have hlen := h.len
  have hfew := h.few
  have hbad : d.badW n ((hasF d.now n).length : Int) (frS s) = 0 := by
    unfold Dk.badW
    rw [if_neg (by simp [hd]), if_neg (by omega)]
    have : d.fullW n ((hasF d.now n).length : Int) (frS s) = false := by
      unfold Dk.fullW Dk.grows
      rw [hf, Bool.or_eq_false_iff]
      refine ⟨decide_eq_false (by omega), ?_⟩
      rw [Bool.and_eq_false_iff]
      exact Or.inr (decide_eq_false (by omega))
    rw [if_neg (by simp [this])]
  have hdo : d.doE = 0 ∧ d.doD (.wr n (hasF d.now n).length (frS s)) = ⟨d.safe, made d.now (.wr n (hasF d.now n).length (frS s)), d.wait ++ [.wr n (hasF d.now n).length (frS s)], d.left, d.down⟩ := by
    have hw : ¬ 1024 ≤ d.wait.length := by omega
    unfold Dk.doE Dk.doD
    rw [if_neg hw, if_neg hw, if_pos r1, if_pos r1, r2]
    exact ⟨rfl, rfl⟩
  have hmade : made d.now (.wr n (hasF d.now n).length (frS s)) = withF d.now n (hasF d.now n ++ frameL s.data.toList) := by
    show withF _ _ _ = _
    rw [over_end, frS_data s (by omega)]
  have hapE : d.apE n s = 0 := by
    unfold Dk.apE Dk.wrE
    rw [if_neg (by omega), if_pos hbad, hdo.1]
  have hapD : d.apD n s = ⟨d.safe, withF d.now n (hasF d.now n ++ frameL s.data.toList), d.wait ++ [.wr n (hasF d.now n).length (frS s)], d.left, d.down⟩ := by
    unfold Dk.apD Dk.wrD
    rw [if_neg (by omega), if_pos hbad, Int.toNat_natCast, hdo.2, hmade]
  rw [hapD]
  refine ⟨hapE, ⟨h.left, h.down, by dsimp only; rw [List.length_append, List.length_singleton]; omega, ?_, ?_⟩, rfl, rfl⟩
  · dsimp only
    have h1 := total_with hn n (hasF d.now n ++ frameL s.data.toList)
    have hsl : s.data.toList.length = s.size := Array.length_toList
    rw [List.length_append, frameL_len, hsl] at h1
    omega
  · dsimp only
    rw [len_with]
    have := len_without d.now n
    omega
/-- A file of whole frames is opened as their bodies. -/
theorem op_whole {d : Dk} {n : ByteArray} {ts : List (List UInt8)} (hd : dnm n = true) (h : hasF d.now n = allF ts) (hs : ∀ x ∈ ts, x.length ≤ 65536) : d.opE n = 0 ∧ d.opD n = d ∧ d.opL n = ts := by
  have e := frsS_all ts [] hs body_none
  rw [List.append_nil] at e
  have he : d.fEnd n = (hasF d.now n).length := by unfold Dk.fEnd; rw [h, e]
  refine ⟨?_, ?_, by unfold Dk.opL; rw [h, e]⟩
  · unfold Dk.opE
    rw [if_neg (by simp [hd]), if_neg (by omega)]
  · unfold Dk.opD
    rw [if_neg (by simp [hd]), if_neg (by omega)]
theorem bodyS_ten (l r : List UInt8) (h : (bodyS l).2 = 10) : (bodyS (l ++ r)).2 = 10 := by
  unfold bodyS at h
  split at h
  · simp at h
  rename_i h1
  split at h
  · simp at h
  rename_i h2
  split at h
  · simp at h
  rename_i h3
  split at h
  · simp at h
  rename_i h4
  split at h
  · simp at h
  rename_i h5
  split at h
  · rename_i h6
    have hl : 10 ≤ l.length := by omega
    have hp : Lib.hasPrefix (l ++ r) [87, 70] = true := by
      have : Lib.hasPrefix l [87, 70] = true := by simpa using h2
      unfold Lib.hasPrefix at this ⊢
      rw [List.isPrefixOf_iff_prefix] at this ⊢
      exact this.trans (List.prefix_append _ _)
    have u2 : unw4 ((l ++ r).drop 2) = unw4 (l.drop 2) := by
      rw [List.drop_append_of_le_length (by omega), take4_unw4, List.take_append_of_le_length (by rw [List.length_drop]; omega), ← take4_unw4]
    have u6 : unw4 ((l ++ r).drop 6) = unw4 (l.drop 6) := by
      rw [List.drop_append_of_le_length (by omega), take4_unw4, List.take_append_of_le_length (by rw [List.length_drop]; omega), ← take4_unw4]
    have d10 : (l ++ r).drop 10 = l.drop 10 ++ r := List.drop_append_of_le_length (by omega)
    have t6 : (l ++ r).take 6 = l.take 6 := List.take_append_of_le_length (by omega)
    unfold bodyS
    rw [if_neg (fun h => by have := h.1; rw [List.length_append] at this; omega), if_neg (by rw [hp]; simp), if_neg (by rw [List.length_append]; omega), u2, if_neg h4, d10, if_neg (by rw [List.length_append]; omega), t6, u6, List.take_append_of_le_length (by omega), if_pos h6]
  · simp at h
/-- A byte of a frame behind its number that is another one. -/
theorem op_rot {d : Dk} {n : ByteArray} {ts us : List (List UInt8)} {x : List UInt8} {k : Nat} {c : UInt8} (hd : dnm n = true) (hs : ∀ y ∈ ts, y.length ≤ 65536) (hx : x.length ≤ 65536) (h6 : 6 ≤ k) (hk : k < x.length + 10) (hc : (frameL x)[k]? ≠ some c)
    (h : hasF d.now n = allF ts ++ ((frameL x).set k c ++ allF us)) : d.opE n = 40 := by
  have hb : (bodyS ((frameL x).set k c ++ allF us)).2 = 10 := bodyS_ten _ _ (by rw [torn_byte x k c hx h6 hk hc])
  have e := frsS_all ts ((frameL x).set k c ++ allF us) hs (by rw [hb]; decide)
  have hE : d.fEnd n = (allF ts).length := by unfold Dk.fEnd; rw [h, e]
  have hC : d.fCode n = 10 := by unfold Dk.fCode; rw [hE, h, List.drop_left, hb]
  unfold Dk.opE
  rw [if_neg (by simp [hd]), if_pos (by rw [hE, h, List.length_append, List.length_append, List.length_set, frameL_len]; omega), if_neg (by rw [hC]; decide)]
end Go.Proofs.YtllkkflolijpaaaDoor
