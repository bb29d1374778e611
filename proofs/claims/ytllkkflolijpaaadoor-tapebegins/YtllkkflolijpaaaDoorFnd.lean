/-
  Plain facts on frames that stand one behind the other.
-/
import Derived.Test.YtllkkflolijpaaaDoorTorn
import Derived.Test.YtllkkflolijpaaaDoorFrs0
namespace Go.Proofs.YtllkkflolijpaaaDoor
open Go.RowKit

/-- A frame is found, whatever stands behind it. -/
theorem bodyS_frame (b r : List UInt8) (hb : b.length ≤ 65536) : bodyS (frameL b ++ r) = (b, 0) := by
  obtain ⟨q, e, hq⟩ := frame_take2 b
  have hl := frameL_len b
  have hsum := sumOf_lt (headL b.length ++ b)
  have hp : Lib.hasPrefix (frameL b ++ r) [87, 70] = true := by rw [e]; exact hasPre _
  have h2 : (frameL b ++ r).drop 2 = w4 b.length ++ (w4 (sumOf (headL b.length ++ b)) ++ b ++ r) := by
    rw [List.drop_append_of_le_length (by omega), frame_drop2]; simp
  have h6 : (frameL b ++ r).drop 6 = w4 (sumOf (headL b.length ++ b)) ++ (b ++ r) := by
    rw [List.drop_append_of_le_length (by omega), frame_drop6]; simp
  have h10 : (frameL b ++ r).drop 10 = b ++ r := by rw [List.drop_append_of_le_length (by omega), frame_drop10]
  have t6 : (frameL b ++ r).take 6 = headL b.length := by rw [List.take_append_of_le_length (by omega), frame_take6]
  have hn : unw4 ((frameL b ++ r).drop 2) = b.length := by rw [h2]; exact unw4_w4 _ _ (by omega)
  have hs : unw4 ((frameL b ++ r).drop 6) = sumOf (headL b.length ++ b) := by rw [h6]; exact unw4_w4 _ _ hsum
  unfold bodyS
  rw [if_neg (fun h => by have := h.1; rw [List.length_append] at this; omega), if_neg (by rw [hp]; simp), if_neg (by rw [List.length_append]; omega), hn, if_neg (by omega), h10, if_neg (by rw [List.length_append]; omega), List.take_left, t6, hs, if_neg (by simp)]
/-- .. wherever it stands. -/
theorem unfS_frame (a b c : List UInt8) (hb : b.length ≤ 65536) : unfS (a ++ frameL b ++ c) (a.length : Int) = (b, ((a.length + (frameL b).length : Nat) : Int), 0, 0) := by
  unfold unfS
  rw [if_neg (by rw [List.length_append, List.length_append]; omega), Int.toNat_natCast, List.append_assoc, List.drop_left, bodyS_frame b c hb]
  dsimp only
  rw [if_neg (by simp), frameL_len]
  refine Prod.ext rfl (Prod.ext ?_ rfl)
  dsimp only
  omega
/-- Frames one behind the other. -/
def allF (bs : List (List UInt8)) : List UInt8 := bs.flatMap frameL
theorem frsF_all (bs : List (List UInt8)) (f : Nat) (a r : List UInt8) (hb : ∀ b ∈ bs, b.length ≤ 65536) (hr : (bodyS r).2 ≠ 0) (hf : bs.length < f) : frsF f (a ++ allF bs ++ r) a.length = (bs, a.length + (allF bs).length) := by
  induction bs generalizing f a with
  | nil =>
    obtain ⟨f, rfl⟩ : ∃ g, f = g + 1 := ⟨f - 1, by simp at hf; omega⟩
    rw [frsF]
    have : (a ++ allF [] ++ r).drop a.length = r := by show (a ++ [] ++ r).drop a.length = r; rw [List.append_nil, List.drop_left]
    rw [this, if_pos hr]
    rfl
  | cons b bs ih =>
    obtain ⟨f, rfl⟩ : ∃ g, f = g + 1 := ⟨f - 1, by simp at hf; omega⟩
    have hbb := hb b List.mem_cons_self
    have e1 : allF (b :: bs) = frameL b ++ allF bs := by unfold allF; rw [List.flatMap_cons]
    have hd : (a ++ allF (b :: bs) ++ r).drop a.length = frameL b ++ (allF bs ++ r) := by rw [e1, List.append_assoc, List.drop_left, List.append_assoc]
    rw [frsF, hd, bodyS_frame b _ hbb]
    dsimp only
    rw [if_neg (by simp)]
    have e2 : a ++ allF (b :: bs) ++ r = (a ++ frameL b) ++ allF bs ++ r := by rw [e1]; simp
    have e3 : a.length + 10 + b.length = (a ++ frameL b).length := by rw [List.length_append, frameL_len]; omega
    rw [e2, e3, ih f (a ++ frameL b) (fun x hx => hb x (List.mem_cons_of_mem _ hx)) (by simp at hf; omega), e1]
    refine Prod.ext rfl ?_
    dsimp only
    rw [List.length_append, List.length_append]; omega
theorem frsS_all (bs : List (List UInt8)) (r : List UInt8) (hb : ∀ b ∈ bs, b.length ≤ 65536) (hr : (bodyS r).2 ≠ 0) : frsS (allF bs ++ r) = (bs, (allF bs).length) := by
  have hl : bs.length ≤ (allF bs).length := by
    clear hb
    induction bs with
    | nil => exact Nat.zero_le _
    | cons b bs ih =>
      have e1 : allF (b :: bs) = frameL b ++ allF bs := by unfold allF; rw [List.flatMap_cons]
      rw [e1, List.length_append, frameL_len, List.length_cons]; omega
  have := frsF_all bs ((allF bs ++ r).length + 1) [] r hb hr (by rw [List.length_append]; omega)
  unfold frsS
  rw [List.nil_append] at this
  exact this.trans (Prod.ext rfl (by simp))
theorem body_none : (bodyS []).2 ≠ 0 := by decide
theorem body_WF : (bodyS [87, 70]).2 ≠ 0 := by decide
end Go.Proofs.YtllkkflolijpaaaDoor
