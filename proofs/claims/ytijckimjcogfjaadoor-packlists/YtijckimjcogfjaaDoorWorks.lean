/-
  works: the chapter's examples hold.
-/
import Derived.Test.YtijckimjcogfjaaDoorDec
namespace Go.Proofs.YtijckimjcogfjaaDoor
open Go.RowKit

theorem numB_small (u : Nat) (h : u < 128) : numB u = [UInt8.ofNat u] := by
  unfold numB; rw [Nat.div_eq_of_lt h, hiB_zero, Nat.mod_eq_of_lt h]; rfl
theorem numB_128 : numB 128 = [129, 0] := by
  unfold numB; rw [show 128 / 128 = 1 from rfl, hiB_step (by decide), show 1 / 128 = 0 from rfl, hiB_zero]; rfl
def exIts : List It := [⟨false, 64, ⟨#[]⟩⟩, ⟨false, -1, ⟨#[]⟩⟩, ⟨true, 0, ⟨#[97, 98]⟩⟩]
theorem ex_bytes : listB exIts = [1, 129, 0, 1, 1, 2, 4, 97, 98] := by
  have z1 : zig 64 = 128 := by decide
  have z2 : zig (-1) = 1 := by decide
  have z3 : zig 2 = 4 := by decide
  unfold listB exIts
  simp only [List.flatMap_cons, List.flatMap_nil, It.b, itemB]
  rw [z1, z2, show (({ data := #[97, 98] } : ByteArray).size : Int) = 2 from rfl, z3, numB_128, numB_small 1 (by decide), numB_small 4 (by decide)]
  rfl
theorem ex_may : exIts.all It.may = true := by
  unfold exIts
  simp [It.may, mayB]
theorem ex_enc : encE exIts = 0 ∧ encS exIts = ⟨#[1, 129, 0, 1, 1, 2, 4, 97, 98]⟩ := by
  have h : encE exIts = 0 := by
    unfold encE
    rw [if_neg (by decide), ex_may, if_neg (by decide), ex_bytes]; rfl
  exact ⟨h, by unfold encS; rw [if_pos h, ex_bytes]⟩
theorem ex_dec : decS [1, 129, 1] = ([⟨false, -65, ⟨#[]⟩⟩], 0, 0) := rfl
theorem ex_sum : sumOf [49, 50, 51, 52, 53, 54, 55, 56, 57] = 3808858755 := by decide +kernel
theorem OwnsI.head {B : Nat} {w : World} {v : Value} {x : It} {l : List It} (h : OwnsI B w v (x :: l)) : ∃ g cp, v = .slice (some ⟨g, 0, none⟩) (l.length + 1) cp ∧ g < w.heap.size ∧ w.cell? ⟨g, 0, none⟩ = some (.bool x.t) ∧ w.cell? ⟨g, 1, none⟩ = some (.int .i64 x.n) ∧ w.cell? ⟨g, 2, none⟩ = some (.string x.s) := by
  obtain ⟨_, ⟨_, h0⟩ | ⟨g, cp, cur, rfl, r⟩⟩ := id h
  · simp at h0
  · have hl := World.ownsRow.lt h g rfl
    refine ⟨g, cp, rfl, hl.2, ?_, ?_, ?_⟩
    · rw [World.ownsRow.cellAt h 0 (by simp)]; simp [itemC]
    · rw [World.ownsRow.cellAt h 1 (by simp; omega)]; simp [itemC]
    · rw [World.ownsRow.cellAt h 2 (by simp; omega)]; simp [itemC]
theorem ex_items (w : World) (o : Obj) (ho : o = .cells #[.bool false, .int .i64 64, .string ⟨#[]⟩, .bool false, .int .i64 (-1), .string ⟨#[]⟩, .bool true, .int .i64 0, .string ⟨#[97, 98]⟩] 35) : ItemsAt (w.alloc o) (some ⟨w.heap.size, 0, none⟩) exIts := by
  subst ho
  intro _
  refine ⟨_, _, rfl, by simp, fun i hi => ?_⟩
  match i, hi with
  | 0, _ => simp [exIts]
  | 1, _ => simp [exIts]
  | 2, _ => simp [exIts]
theorem ex_encode (w : World) : Calls Tryd.prog 5 #[.slice (some ⟨w.heap.size, 0, none⟩) 3 3] (w.alloc (.cells #[.bool false, .int .i64 64, .string ⟨#[]⟩, .bool false, .int .i64 (-1), .string ⟨#[]⟩, .bool true, .int .i64 0, .string ⟨#[97, 98]⟩] 35)) fun e w' => e = .returned (.tuple #[.string ⟨#[1, 129, 0, 1, 1, 2, 4, 97, 98]⟩, .int .i64 0]) ∧ Below w.heap.size w w' := by
  have h := encode_any (some ⟨w.heap.size, 0, none⟩) 3 exIts _ (by decide) (ex_items w _ rfl) (by
    intro x hx
    unfold exIts at hx
    simp only [List.mem_cons, List.not_mem_nil, or_false] at hx
    rcases hx with rfl | rfl | rfl <;> exact ⟨by decide, by decide, by decide⟩)
  rw [ex_enc.1, ex_enc.2] at h
  refine h.mono fun e w' ⟨h1, h2⟩ => ⟨h1, ?_⟩
  exact ((Below.refl _ _).alloc (Nat.le_refl _) _).trans (h2.mono (by simp))
theorem ex_decode (w : World) : Calls Tryd.prog 7 #[.string ⟨#[1, 129, 1]⟩] w fun e w' => ∃ g cp, e = .returned (.tuple #[.slice (some ⟨g, 0, none⟩) 1 cp, .agg #[.int .i64 0, .int .i64 0]]) ∧ w'.cell? ⟨g, 1, none⟩ = some (.int .i64 (-65)) ∧ g < w'.heap.size ∧ Below w.heap.size w w' := by
  have h := decode_any ⟨#[1, 129, 1]⟩ w (by decide)
  rw [show ({ data := #[1, 129, 1] } : ByteArray).data.toList = [1, 129, 1] from rfl, ex_dec] at h
  refine h.mono fun e w' ⟨v, h1, h2, h3⟩ => ?_
  obtain ⟨g, cp, rfl, hg, _, hc, _⟩ := h2.head
  exact ⟨g, cp, h1, hc, hg, h3⟩
theorem ex_sumcall (w : World) (hT : TabW w) : Calls Tryd.prog 20 #[.string ⟨#[49, 50, 51, 52, 53, 54, 55, 56, 57]⟩] w fun e w' => e = .returned (.int .u32 3808858755) ∧ w' = w := by
  have h := sum_any ⟨#[49, 50, 51, 52, 53, 54, 55, 56, 57]⟩ w (by unfold maxLen; decide) hT
  rw [show ({ data := #[49, 50, 51, 52, 53, 54, 55, 56, 57] } : ByteArray).data.toList = [49, 50, 51, 52, 53, 54, 55, 56, 57] from rfl, ex_sum] at h
  exact h
set_option maxHeartbeats 2000000 in
theorem works_any (w : World) (hT : TabW w) : Calls Tryd.prog 12 #[] w fun e w' => e = .returned (.bool true) ∧ Below w.heap.size w w' := by
  have HT := hide hT
  have h0 := hT.1
  clear hT
  go_enter Tryd.func12, Tryd.ntmps12
  go_wp2_with fail
  refine (ex_encode w).mono ?_
  rintro e w1 ⟨rfl, hb1⟩
  go_wp2_with fail
  refine (ex_decode w1).mono ?_
  rintro e w2 ⟨g, cp, rfl, hc, hg, hb2⟩
  have hb3 := hb1.trans (hb2.mono hb1.size)
  have h3 := hb3.size
  clear hb1 hb2
  have hb4 : Below w.heap.size w (w2.alloc (.cells #[.int .i64 0, .int .i64 0] 28)) := hb3.alloc h3 _
  go_wp2_with fail
  refine (ex_sumcall _ ((unhide HT).below hb4 h0)).mono ?_
  rintro e w3 ⟨rfl, rfl⟩
  go_wp2
  go_ret
  exact ⟨rfl, hb4⟩
end Go.Proofs.YtijckimjcogfjaaDoor
