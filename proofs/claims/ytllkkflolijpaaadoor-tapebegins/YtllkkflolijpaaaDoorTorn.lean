/-
  Plain facts on frames: a frame that ends early is none; nor is one in which one byte behind the number is another one; a frame is found wherever it stands.
-/
import Derived.Test.YtllkkflolijpaaaDoorBod
namespace Go.Proofs.YtllkkflolijpaaaDoor
open Go.RowKit

theorem frame_take2 (b : List UInt8) : ∃ r, frameL b = 87 :: 70 :: r ∧ r.length = b.length + 8 := by
  refine ⟨w4 b.length ++ w4 (sumOf (headL b.length ++ b)) ++ b, ?_, ?_⟩
  · unfold frameL headL; simp
  · rw [List.length_append, List.length_append]; show 4 + 4 + b.length = _; omega
theorem frame_drop2 (b : List UInt8) : (frameL b).drop 2 = w4 b.length ++ (w4 (sumOf (headL b.length ++ b)) ++ b) := by
  unfold frameL headL; simp
theorem frame_drop6 (b : List UInt8) : (frameL b).drop 6 = w4 (sumOf (headL b.length ++ b)) ++ b := by
  unfold frameL headL w4; simp
theorem frame_drop10 (b : List UInt8) : (frameL b).drop 10 = b := by
  unfold frameL headL w4; simp
theorem frame_take6 (b : List UInt8) : (frameL b).take 6 = headL b.length := by
  unfold frameL headL w4; simp
theorem take4_unw4 (l : List UInt8) : unw4 l = unw4 (l.take 4) := by
  match l with
  | [] => rfl
  | [_] => rfl
  | [_, _] => rfl
  | [_, _, _] => rfl
  | _ :: _ :: _ :: _ :: _ => rfl
theorem hasPre (r : List UInt8) : Lib.hasPrefix (87 :: 70 :: r) [87, 70] = true := by
  unfold Lib.hasPrefix; simp [List.isPrefixOf]
/-- A frame that ends early. -/
theorem torn_early (b : List UInt8) (k : Nat) (hb : b.length ≤ 65536) (hk : k < b.length + 10) : bodyS ((frameL b).take k) = ([], 11) := by
  obtain ⟨r, e, hr⟩ := frame_take2 b
  have hl : ((frameL b).take k).length = k := by rw [List.length_take, frameL_len]; omega
  unfold bodyS
  by_cases h2 : k < 2
  · rw [if_pos]
    refine ⟨by omega, ?_⟩
    rw [e]
    match k, h2 with
    | 0, _ => rfl
    | 1, _ => rfl
  · obtain ⟨j, rfl⟩ : ∃ j, k = j + 2 := ⟨k - 2, by omega⟩
    have e2 : (frameL b).take (j + 2) = 87 :: 70 :: r.take j := by rw [e]; rfl
    have hp : Lib.hasPrefix ((frameL b).take (j + 2)) [87, 70] = true := by rw [e2]; exact hasPre _
    rw [if_neg (fun h => by omega), if_neg (by rw [hp]; simp)]
    by_cases h10 : j + 2 < 10
    · rw [if_pos (by omega)]
    · rw [if_neg (by omega)]
      have hn : unw4 (((frameL b).take (j + 2)).drop 2) = b.length := by
        rw [List.drop_take, frame_drop2, take4_unw4, List.take_take, show min 4 (j + 2 - 2) = 4 by omega, ← take4_unw4]
        exact unw4_w4 _ _ (by omega)
      rw [hn, if_neg (by omega), if_pos]
      rw [List.length_drop, hl]; omega
theorem w4_inj_one (a : List UInt8) (x y : UInt8) (r : List UInt8) (hne : x ≠ y) (hl : a.length < 4) : unw4 (a ++ x :: r) ≠ unw4 (a ++ y :: r) ∨ (a ++ x :: r).length < 4 := by
  by_cases hs : (a ++ x :: r).length < 4
  · exact Or.inr hs
  · refine Or.inl fun h => hne ?_
    apply UInt8.toNat_inj.1
    have hx := x.toNat_lt; have hy := y.toNat_lt
    match a, hl with
    | [], _ =>
      match r, hs, h with
      | [], hs, _ => simp at hs
      | [_], hs, _ => simp at hs
      | [_, _], hs, _ => simp at hs
      | _ :: _ :: _ :: _, _, h => simp only [List.nil_append, unw4] at h; omega
    | [_], _ =>
      match r, hs, h with
      | [], hs, _ => simp at hs
      | [_], hs, _ => simp at hs
      | _ :: _ :: _, _, h => simp only [List.cons_append, List.nil_append, unw4] at h; omega
    | [_, _], _ =>
      match r, hs, h with
      | [], hs, _ => simp at hs
      | _ :: _, _, h => simp only [List.cons_append, List.nil_append, unw4] at h; omega
    | [_, _, _], _ => simp only [List.cons_append, List.nil_append, unw4] at h; omega
    | _ :: _ :: _ :: _ :: _, hl => simp at hl; omega
/-- A frame in which one byte behind the number is another one. -/
theorem torn_byte (b : List UInt8) (k : Nat) (c : UInt8) (hb : b.length ≤ 65536) (h6 : 6 ≤ k) (hk : k < b.length + 10) (hc : (frameL b)[k]? ≠ some c) : bodyS ((frameL b).set k c) = ([], 10) := by
  obtain ⟨r, e, hr⟩ := frame_take2 b
  obtain ⟨j, rfl⟩ : ∃ j, k = j + 2 := ⟨k - 2, by omega⟩
  have e2 : (frameL b).set (j + 2) c = 87 :: 70 :: r.set j c := by rw [e]; rfl
  have hl : ((frameL b).set (j + 2) c).length = b.length + 10 := by rw [List.length_set, frameL_len]
  have hp : Lib.hasPrefix ((frameL b).set (j + 2) c) [87, 70] = true := by rw [e2]; exact hasPre _
  have hd2 : ((frameL b).set (j + 2) c).drop 2 = ((frameL b).drop 2).set j c := by rw [List.drop_set, if_neg (by omega)]; rfl
  have hn : unw4 (((frameL b).set (j + 2) c).drop 2) = b.length := by
    rw [hd2, take4_unw4, List.take_set_of_le (by omega), ← take4_unw4, frame_drop2]
    exact unw4_w4 _ _ (by omega)
  have ht6 : ((frameL b).set (j + 2) c).take 6 = headL b.length := by rw [List.take_set_of_le (by omega), frame_take6]
  have hsum := sumOf_lt (headL b.length ++ b)
  unfold bodyS
  rw [if_neg (fun h => by omega), if_neg (by rw [hp]; simp), if_neg (by omega), hn, if_neg (by omega), if_neg (by rw [List.length_drop, hl]; omega), if_pos]
  rw [ht6]
  by_cases h10 : j + 2 < 10
  · have hd10 : ((frameL b).set (j + 2) c).drop 10 = b := by rw [List.drop_set, if_pos (by omega), frame_drop10]
    have hd6 : ((frameL b).set (j + 2) c).drop 6 = (w4 (sumOf (headL b.length ++ b)) ++ b).set (j - 4) c := by rw [List.drop_set, if_neg (by omega), frame_drop6]; congr 1
    rw [hd10, List.take_length, hd6]
    have hlen : (w4 (sumOf (headL b.length ++ b)) ++ b).length = b.length + 4 := by rw [List.length_append]; show 4 + b.length = _; omega
    have hget : (w4 (sumOf (headL b.length ++ b)) ++ b)[j - 4]? ≠ some c := by
      rw [← frame_drop6, List.getElem?_drop, show 6 + (j - 4) = j + 2 by omega]; exact hc
    have hun := unw4_w4 (sumOf (headL b.length ++ b)) b hsum
    generalize w4 (sumOf (headL b.length ++ b)) ++ b = L at *
    have hj : j - 4 < L.length := by omega
    rw [← hun]
    have es : L = L.take (j - 4) ++ L[j - 4] :: L.drop (j - 4 + 1) := by rw [← List.drop_eq_getElem_cons hj, List.take_append_drop]
    rw [List.set_eq_take_append_cons_drop, if_pos hj]
    have hne : L[j - 4] ≠ c := fun h => hget (by rw [List.getElem?_eq_getElem hj, h])
    rcases w4_inj_one (L.take (j - 4)) L[j - 4] c (L.drop (j - 4 + 1)) hne (by rw [List.length_take]; omega) with h | h
    · rw [← es] at h; exact h
    · rw [← es] at h; omega
  · have hd6 : unw4 (((frameL b).set (j + 2) c).drop 6) = sumOf (headL b.length ++ b) := by
      rw [List.drop_set, if_neg (by omega), frame_drop6, take4_unw4, List.take_set_of_le (by omega), ← take4_unw4]
      exact unw4_w4 _ _ hsum
    have hd10 : ((frameL b).set (j + 2) c).drop 10 = b.set (j - 8) c := by rw [List.drop_set, if_neg (by omega), frame_drop10]; congr 1
    have hget : b[j - 8]? ≠ some c := by
      have : b[j - 8]? = (frameL b)[j + 2]? := by rw [← frame_drop10 b, List.getElem?_drop, frame_drop10, show 10 + (j - 8) = j + 2 by omega]
      rw [this]; exact hc
    rw [hd6, hd10, List.take_of_length_le (by rw [List.length_set]; omega)]
    have hj : j - 8 < b.length := by omega
    have es : b = b.take (j - 8) ++ b[j - 8] :: b.drop (j - 8 + 1) := by rw [← List.drop_eq_getElem_cons hj, List.take_append_drop]
    have hne : b[j - 8] ≠ c := fun h => hget (by rw [List.getElem?_eq_getElem hj, h])
    intro h
    have h := sumOf_inj h
    rw [List.set_eq_take_append_cons_drop, if_pos hj, ← List.append_assoc] at h
    refine sumL_byte (s := 4294967295) (headL b.length ++ b.take (j - 8)) (b.drop (j - 8 + 1)) (by omega) hne ?_
    rw [h, List.append_assoc, ← es]
end Go.Proofs.YtllkkflolijpaaaDoor
