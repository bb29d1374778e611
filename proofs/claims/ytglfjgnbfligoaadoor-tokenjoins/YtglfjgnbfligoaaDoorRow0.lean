/-
  Rows of bytes of the call's own; such a row as a string; strings.Clone returns the same bytes.
-/
import Derived.Test.YtglfjgnbfligoaaDoorChecked
import Derived.Test.YtglfjgnbfligoaaDoorOwn
import Derived.Test.YtglfjgnbfligoaaDoorShelf
import Derived.WalkLawsBesides
import Derived.Laws.DeepNot64
import Derived.SliceStrings
namespace Go.Proofs.YtglfjgnbfligoaaDoor
open Go.RowKit

theorem info_u8 : (Tryd.prog.info? 5).map (fun i => (i.zero, i.size, i.bytes)) = some (some (.int .u8 0), 1, 1) := by kernel_rfl
/-- A row of bytes of the call's own. -/
def Owns (B : Nat) (w : World) (v : Value) (l : List UInt8) : Prop := w.ownsRow B 5 1 v l.length (byteC l)
theorem Owns.nil (B : Nat) (w : World) : Owns B w (.slice none 0 0) [] := World.ownsRow_nil _ _ _ _
theorem Owns.alloc {B : Nat} {w : World} {v : Value} {l : List UInt8} (h : Owns B w v l) (o : Obj) : Owns B (w.alloc o) v l := World.ownsRow.alloc h o
theorem Owns.drew {B : Nat} {w : World} {v : Value} {l : List UInt8} (h : Owns B w v l) : Owns B w.drew v l := h
theorem Owns.form {B : Nat} {w : World} {v : Value} {l : List UInt8} (h : Owns B w v l) : ∃ ad cp, v = .slice ad l.length cp := by
  obtain ⟨_, ⟨rfl, h0⟩ | ⟨g, cp, cur, rfl, _⟩⟩ := h
  · exact ⟨_, _, by rw [h0]⟩
  · exact ⟨_, _, rfl⟩
theorem strOf_bytes (l : List UInt8) : strOfNums (l.map fun b => (b.toNat : Int)) = ⟨l.toArray⟩ := by
  unfold strOfNums; congr 1; simp [List.map_map, Function.comp_def]
/-- The row's bytes as a string. -/
theorem Owns.string {B : Nat} {w : World} {v : Value} {l : List UInt8} (h : Owns B w v l) : (convert 50 9 v).run Tryd.prog w = .ok (.string ⟨l.toArray⟩) w := by
  obtain ⟨hl, ⟨rfl, h0⟩ | ⟨g, cp, cur, rfl, hb, hh, r⟩⟩ := id h
  · obtain rfl : l = [] := List.eq_nil_of_length_eq_zero h0
    exact run_convert_bytes_nil w 50 5 Tryd.underlying50 Tryd.underlying5 0 0 9 Tryd.underlying9
  · have := run_convert_bytes_arg (P := Tryd.prog) w 50 5 Tryd.underlying50 Tryd.underlying5 g 0 l.length cp (l.map fun b => (b.toNat : Int)) (by simp) (fun i hi => by
      rw [Nat.zero_add]
      have c := World.ownsRow.cellAt h i (by omega)
      rw [c]
      unfold byteC
      simp [List.getElem?_eq_getElem hi, List.getD]) 9 Tryd.underlying9
    rw [strOf_bytes] at this
    exact this
theorem drop_get (b : ByteArray) (i : Nat) (h : i < b.size) : b.data.toList.drop i = b[i] :: b.data.toList.drop (i + 1) := by
  rw [List.drop_eq_getElem_cons (by simpa using h)]; rfl
theorem take_snoc (s : ByteArray) (k : Nat) (h : k < s.size) : s.data.toList.take (k + 1) = s.data.toList.take k ++ [s[k]] := by
  rw [List.take_succ_eq_append_getElem (by simpa using h)]; rfl
set_option maxHeartbeats 400000 in
theorem clone_any (b : ByteArray) (w : World) (hb : b.size ≤ 281474976710656) :
    Calls Tryd.prog 18 #[.string b] w fun e w' => e = .returned (.string b) ∧ Below w.heap.size w w' := by
  go_enter Tryd.func18, Tryd.ntmps18
  go_wp2_with fail
  refine (Tryd.stringslite_Clone b _ hb).mono ?_
  rintro e w' ⟨rfl, h⟩
  go_wp2
  go_ret
  exact ⟨rfl, h⟩
end Go.Proofs.YtglfjgnbfligoaaDoor
