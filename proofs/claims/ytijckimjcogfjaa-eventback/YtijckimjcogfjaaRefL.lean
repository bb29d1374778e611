/-
  The document's answer for an item (One) is the plain function's.
-/
import Derived.Test.YtijckimjcogfjaaEnc
import Derived.Test.YtijckimjcogfjaaRefN
namespace Go.Proofs.Ytijckimjcogfjaa
open Go.RowKit

theorem BoxAt.below {k B : Nat} {t : Bool} {n : Int} {s : ByteArray} {w w' : World} (h : BoxAt k t n s w) (hb : Below B w w') (hB : k < B) : BoxAt k t n s w' := by unfold BoxAt; rw [hb.block k hB]; exact h
theorem ba_list {l : List UInt8} {b : ByteArray} (h : b.data.toList = l) : (⟨l.toArray⟩ : ByteArray) = b := by
  apply ByteArray.ext; apply Array.ext'; exact h.symm
theorem numS_size {n : Int} (h0 : -9223372036854775808 ≤ n) (h1 : n < 9223372036854775808) : (⟨(numB (zig n)).toArray⟩ : ByteArray).size ≤ 10 := by
  show (List.toArray _).size ≤ 10
  rw [List.size_toArray]
  exact (numB_length (u := zig n) (zig_lt h0 h1)).2
set_option maxHeartbeats 1000000 in
set_option maxRecDepth 100000 in
theorem refOne_num (n : Int) (s : ByteArray) (w : World) (h0 : -9223372036854775808 ≤ n) (h1 : n < 9223372036854775808) :
    Calls Try.prog 65 #[.agg #[.bool false, .int .i64 n, .string s]] w fun e w' => e = .returned (.string ⟨(itemB false n s).toArray⟩) ∧ Below w.heap.size w w' := by
  have hz := fun w => refNumber_any n w h0 h1
  have hsz := numS_size h0 h1
  rw [show (⟨(itemB false n s).toArray⟩ : ByteArray) = ⟨#[1]⟩ ++ ⟨(numB (zig n)).toArray⟩ from ba_list (by rw [Joins.data_append]; rfl)]
  generalize (⟨(numB (zig n)).toArray⟩ : ByteArray) = Z at *
  have HZ := hide hz
  have q1 : 1 + Z.size ≤ 9223372036854775807 := by omega
  have q2 : ({ data := #[1] } : ByteArray).size + Z.size ≤ 9223372036854775807 := q1
  clear hz hsz
  go_enter Try.func65, Try.ntmps65
  go_wp2_with fail
  refine (unhide HZ _).mono ?_
  rintro e w1 ⟨rfl, hb1⟩
  go_wp2
  go_ret
  exact ⟨rfl, ((Below.refl _ _).alloc (Nat.le_refl _) _).trans (hb1.mono (by simp))⟩
set_option maxHeartbeats 1000000 in
set_option maxRecDepth 100000 in
theorem refOne_text (n : Int) (s : ByteArray) (w : World) (hs : s.size ≤ 140737488351232) :
    Calls Try.prog 65 #[.agg #[.bool true, .int .i64 n, .string s]] w fun e w' => e = .returned (.string ⟨(itemB true n s).toArray⟩) ∧ Below w.heap.size w w' := by
  have hz := fun w => refNumber_any (s.size : Int) w (by omega) (by omega)
  have hsz := numS_size (n := (s.size : Int)) (by omega) (by omega)
  rw [show (⟨(itemB true n s).toArray⟩ : ByteArray) = ⟨#[2]⟩ ++ ⟨(numB (zig (s.size : Int))).toArray⟩ ++ s from ba_list (by rw [Joins.data_append, Joins.data_append]; rfl)]
  generalize (⟨(numB (zig (s.size : Int))).toArray⟩ : ByteArray) = Z at *
  have HZ := hide hz
  have q1 : 1 + Z.size ≤ 9223372036854775807 := by omega
  have q2 : ({ data := #[2] } : ByteArray).size + Z.size ≤ 9223372036854775807 := q1
  have q3 : (({ data := #[2] } : ByteArray) ++ Z).size + s.size ≤ 9223372036854775807 := by rw [ByteArray.size_append]; have : ({ data := #[2] } : ByteArray).size = 1 := rfl; omega
  have a1 : ∀ w, (Op.stringOp .add ⟨#[2]⟩ Z).run Try.prog w = .ok (.string (⟨#[2]⟩ ++ Z)) w := fun w => run_string_add_sum w _ _ q2
  have a2 : ∀ w, (Op.stringOp .add (⟨#[2]⟩ ++ Z) s).run Try.prog w = .ok (.string (⟨#[2]⟩ ++ Z ++ s)) w := fun w => run_string_add_sum w _ _ q3
  clear hz
  go_enter Try.func65, Try.ntmps65
  go_wp2_with fail
  have hblk : BoxAt w.heap.size true n s (w.alloc (.cells #[.bool true, .int .i64 n, .string s] 50)) := heap_alloc_new w _
  have hbl : Below w.heap.size w (w.alloc (.cells #[.bool true, .int .i64 n, .string s] 50)) := (Below.refl _ _).alloc (Nat.le_refl _) _
  have hsz2 : w.heap.size < (w.alloc (.cells #[.bool true, .int .i64 n, .string s] 50)).heap.size := by simp
  generalize w.alloc (.cells #[.bool true, .int .i64 n, .string s] 50) = W at *
  have hcW := hblk.cells
  go_region_held3 (fun w' => BoxAt w.heap.size true n s w' ∧ w'.cell? ⟨w.heap.size, 1, none⟩ = some (.int .i64 n) ∧ w'.cell? ⟨w.heap.size, 2, none⟩ = some (.string s)) (first | exact HoldS.of hblk | exact HoldS.of (BoxAt.below (w := W.drew) hblk hb1 hsz2))
    (first | (go_at_call 71; refine (unhide HZ _).mono ?_; rintro e w1 ⟨rfl, hb1⟩))
  go_wp2
  go_ret
  exact ⟨rfl, hbl.drew.trans (hb1.mono hbl.size)⟩
theorem refOne_any (t : Bool) (n : Int) (s : ByteArray) (w : World) (h0 : -9223372036854775808 ≤ n) (h1 : n < 9223372036854775808) (hs : s.size ≤ 140737488351232) :
    Calls Try.prog 65 #[.agg #[.bool t, .int .i64 n, .string s]] w fun e w' => e = .returned (.string ⟨(itemB t n s).toArray⟩) ∧ Below w.heap.size w w' := by
  cases t
  · exact refOne_num n s w h0 h1
  · exact refOne_text n s w hs
end Go.Proofs.Ytijckimjcogfjaa
